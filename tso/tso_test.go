package tso_test

import (
	"math"
	"slices"
	"testing"

	"calque/api"
	"calque/elf"
	"calque/image"
	"calque/mem"
	"calque/tso"
	"calque/xenc"
	"calque/xinst"
)

const (
	all     = math.MaxUint64
	base    = 4096  // of the text
	x       = 8192  // in data that may be written
	y       = 8200  // there, too
	fixed   = 12288 // in data that may not
	private = 65536 // the first stack
	shared  = 131072
)

// set sets a register to a number.
func set(reg int, v uint64) xinst.Inst {
	return xinst.Inst{Op: xinst.Mov, W: 8, A: xinst.R(reg), B: xinst.I(), Imm: int64(v)}
}

// at is memory at an address.
func at(a int64) xinst.Opd { return xinst.M(xinst.No, xinst.No, 1, a) }

// load reads a word into a register.
func load(reg int, a int64) xinst.Inst {
	return xinst.Inst{Op: xinst.Mov, W: 8, A: xinst.R(reg), B: at(a)}
}

// store stores a number.
func store(a int64, v int64) xinst.Inst {
	return xinst.Inst{Op: xinst.Mov, W: 8, A: at(a), B: xinst.I(), Imm: v}
}

// Instructions without operands.
var (
	nop   = xinst.Inst{Op: xinst.Nop, W: 8}
	sys   = xinst.Inst{Op: xinst.Sys, W: 8}
	ud    = xinst.Inst{Op: xinst.Ud, W: 8}
	ret   = xinst.Inst{Op: xinst.Ret, W: 8}
	barr  = xinst.Inst{Op: xinst.Fence, W: 8}
	push5 = xinst.Inst{Op: xinst.Push, W: 8, A: xinst.I(), Imm: 5}
)

// call is a syscall with registers 7 and 6.
func call(number int, r7, r6 uint64) []xinst.Inst {
	return []xinst.Inst{set(0, uint64(number)), set(7, r7), set(6, r6), sys}
}

// code is a program's instructions, some after others.
func code(l ...any) []xinst.Inst {
	var out []xinst.Inst
	for _, i := range l {
		switch i := i.(type) {
		case xinst.Inst:
			out = append(out, i)
		case []xinst.Inst:
			out = append(out, i...)
		}
	}
	return out
}

// text is the bytes of instructions, and where each of them is.
func text(t *testing.T, l []xinst.Inst) ([]byte, []int) {
	t.Helper()
	b, places, e := xenc.All(l...)
	if e != api.OK {
		t.Fatal("no bytes", e)
	}
	return b, places
}

// program is an image of a text, with data and three stacks.
func program(b []byte) image.Image {
	return image.Image{
		Seg:    elf.Seg{Kind: elf.Load, Flags: elf.R | elf.X, Addr: base, Size: uint64(len(b)), Data: b},
		Data:   []elf.Seg{{Kind: elf.Load, Flags: elf.R | elf.W, Addr: x, Size: 64}, {Kind: elf.Load, Flags: elf.R, Addr: fixed, Size: 16, Data: []byte{7, 0, 0, 0, 0, 0, 0, 0, 9}}},
		Stacks: []image.Area{{Lo: private, Size: 64, Private: true}, {Lo: shared, Size: 128}, {Lo: 262144, Size: 64, Private: true}},
		Entry:  base,
	}
}

// build makes a machine of instructions.
func build(t *testing.T, l []xinst.Inst, in ...uint64) *tso.Machine {
	t.Helper()
	b, _ := text(t, l)
	m := tso.New(program(b), in...)
	if m == nil {
		t.Fatal("no machine")
	}
	return m
}

// room is how far the codes of threads are apart.
const room = 256

// together makes a machine of several threads, each with code of its own, and lets thread 0 start the others with the stacks of their numbers.
func together(t *testing.T, l ...[]xinst.Inst) *tso.Machine {
	t.Helper()
	var first []xinst.Inst
	for k := 1; k < len(l); k++ {
		first = append(first, call(2, base+uint64(k)*room, uint64(k))...)
	}
	var b []byte
	for k, body := range l {
		if k == 0 {
			body = code(first, body)
		}
		part, _ := text(t, body)
		b = append(b, part...)
		b = append(b, slices.Repeat([]byte{0x06}, (k+1)*room-len(b))...) // no instruction
	}
	m := tso.New(program(b))
	steps(t, m, 0, len(first))
	if m.Threads() != len(l) {
		t.Fatal("threads:", m.Threads())
	}
	return m
}

// steps lets a thread execute some steps.
func steps(t *testing.T, m *tso.Machine, thread, n int) tso.Thread {
	t.Helper()
	for k := range n {
		if !m.Step(thread) {
			t.Fatal("thread", thread, "has no step", k)
		}
	}
	return get(t, m, thread)
}

// run lets a thread run until it has no step.
func run(t *testing.T, m *tso.Machine, thread int) tso.Thread {
	t.Helper()
	for m.Step(thread) {
	}
	return get(t, m, thread)
}

// get is a thread that there is.
func get(t *testing.T, m *tso.Machine, thread int) tso.Thread {
	t.Helper()
	h, ok := m.Thread(thread)
	if !ok {
		t.Fatal("no thread", thread)
	}
	return h
}

// word is a word of memory.
func word(t *testing.T, m *mem.Mem, a uint64) uint64 {
	t.Helper()
	v := uint64(0)
	for k := range uint64(8) {
		b, ok := m.Byte(a + k)
		if !ok {
			t.Fatal("no byte", a+k)
		}
		v |= uint64(b) << (8 * k)
	}
	return v
}

// Example 1.
func TestExample(t *testing.T) {
	m := build(t, code(set(0, 60), set(7, 5), sys))
	for k := range 3 {
		if h := get(t, m, 0); h.End != api.Runs || h.Code != 0 || h.Steps != k {
			t.Errorf("%+v", h)
		}
		if !m.Step(0) {
			t.Error("no step", k)
		}
	}
	if h := get(t, m, 0); h.End != api.Exits || h.Code != 5 || h.Steps != 3 || m.Step(0) {
		t.Errorf("%+v", h)
	}
}

// P27.1: thread 0 starts at the entry with stack 0; memory is that of the program.
func TestNew(t *testing.T) {
	b, _ := text(t, code(nop, push5))
	p := program(b)
	p.Entry = base + 1
	m := tso.New(p)
	h := get(t, m, 0)
	if m.Threads() != 1 || h.Ip != base+1 || h.Reg != [16]uint64{4: private + 64} || h.C || h.O || h.Res != 1 || h.Stack != 0 || h.End != api.Runs || h.Steps != 0 || h.Reads != 0 || len(h.Trace) != 0 {
		t.Errorf("%+v", h)
	}
	want := mem.New(
		mem.Area{Lo: base, Data: b},
		mem.Area{Lo: x, Data: make([]byte, 64), Write: true},
		mem.Area{Lo: fixed, Data: []byte{7, 0, 0, 0, 0, 0, 0, 0, 9, 0, 0, 0, 0, 0, 0, 0}},
		mem.Area{Lo: private, Data: make([]byte, 64), Write: true, Private: true},
		mem.Area{Lo: shared, Data: make([]byte, 128), Write: true},
		mem.Area{Lo: 262144, Data: make([]byte, 64), Write: true, Private: true},
	)
	if !m.Memory().Same(want) {
		t.Error("memory is another one")
	}
	// The stack has an owner: no thread can own it now.
	if c := m.Memory(); c.Own(1, 3) || !c.Own(1, 5) || !c.May(0, private, 8, true) || c.May(1, private, 8, false) || !c.May(1, shared, 8, true) || c.May(0, base, 1, true) || c.May(0, fixed, 1, true) {
		t.Error("other areas may be accessed")
	}
	if steps(t, m, 0, 1).Reg[4] != private+56 || m.Memory().Pending(0) != 1 {
		t.Error("push")
	}
	for _, flags := range []int{0, elf.R, elf.X, elf.R | elf.X, elf.W, 7, 8, -1} {
		p.Data[0].Flags = flags
		if m := tso.New(p); m.Memory().May(0, x, 8, true) != (flags&elf.W != 0) || m.Memory().May(0, base, 1, true) {
			t.Error("flags", flags)
		}
	}
}

// P27.1: images that no machine has room for, and those that are just small enough.
func TestNewNone(t *testing.T) {
	for _, c := range []struct {
		what string
		f    func(p *image.Image)
		ok   bool
	}{
		{"as it is", func(p *image.Image) {}, true},
		{"no stack", func(p *image.Image) { p.Stacks = nil }, false},
		{"an empty list of stacks", func(p *image.Image) { p.Stacks = []image.Area{} }, false},
		{"one stack", func(p *image.Image) { p.Stacks = p.Stacks[:1] }, true},
		{"an empty stack", func(p *image.Image) { p.Stacks[0].Size = 0 }, true},
		{"more text than bytes", func(p *image.Image) { p.Size++ }, false},
		{"less text than bytes", func(p *image.Image) { p.Size-- }, false},
		{"no text", func(p *image.Image) { p.Seg = elf.Seg{} }, true},
		{"the greatest text", func(p *image.Image) { p.Seg.Data, p.Size = make([]byte, api.MaxMem), api.MaxMem }, true},
		{"too great a text", func(p *image.Image) { p.Seg.Data, p.Size = make([]byte, api.MaxMem+1), api.MaxMem+1 }, false},
		{"the greatest data", func(p *image.Image) { p.Data[1].Size = api.MaxMem }, true},
		{"too great data", func(p *image.Image) { p.Data[1].Size = api.MaxMem + 1 }, false},
		{"very great data", func(p *image.Image) { p.Data[0].Size = all }, false},
		{"all of the data", func(p *image.Image) { p.Data[1].Size = 9 }, true},
		{"more data than Size", func(p *image.Image) { p.Data[1].Size = 8 }, false},
		{"no data", func(p *image.Image) { p.Data = nil }, true},
		{"the greatest stack", func(p *image.Image) { p.Stacks[2].Size = api.MaxMem }, true},
		{"too great a stack", func(p *image.Image) { p.Stacks[2].Size = api.MaxMem + 1 }, false},
		{"a stack of all bytes", func(p *image.Image) { p.Stacks[0].Size = all }, false},
		{"many stacks", func(p *image.Image) { p.Stacks = slices.Repeat(p.Stacks, 20) }, true},
		{"other flags, kinds and addresses", func(p *image.Image) {
			p.Kind, p.Flags, p.Addr, p.Entry = -1, -1, all, all
			p.Data[0].Addr, p.Stacks[0].Lo = all, all-10
		}, true},
	} {
		b, _ := text(t, code(nop))
		p := program(b)
		c.f(&p)
		m := tso.New(p, 1, 2)
		if (m != nil) != c.ok {
			t.Error(c.what)
		}
		for range 3 {
			m.Step(0)
		}
	}
	if tso.New(image.Image{}) != nil {
		t.Error("the zero image")
	}
}

// P27.1: what ends a thread before it executes an instruction, which is a step, too.
func TestFetch(t *testing.T) {
	jump := func(to uint64) []xinst.Inst {
		return code(set(3, to), xinst.Inst{Op: xinst.Jmp, W: 8, A: xinst.R(3)})
	}
	for _, c := range []struct {
		what string
		to   uint64
		end  int
	}{
		{"below the text", base - 1, api.FaultMem},
		{"address 0", 0, api.FaultMem},
		{"the last address", all, api.FaultMem},
		{"data", x, api.FaultMem},
		{"a stack", private, api.FaultMem},
		{"behind the text", base + 20, api.FaultMem},
		{"half of an instruction at the end", base + 19, api.FaultUd},
		{"what is none", base + 18, api.FaultUd},
		{"what ends so itself", base + 16, api.FaultUd},
		{"between two instructions", base + 2, api.Runs},
		{"an instruction", base + 15, api.Runs},
	} {
		b, _ := text(t, code(jump(c.to)))
		if len(b) < 15 {
			b = append(b, slices.Repeat([]byte{0x90}, 15-len(b))...)
		}
		b = append(b[:15:15], 0x90, 0x0F, 0x0B, 0x06, 0x0F)
		m := tso.New(program(b))
		if h := steps(t, m, 0, 2); h.Ip != c.to || h.End != api.Runs || h.Steps != 2 {
			t.Errorf("%s: %+v", c.what, h)
		}
		if c.what == "between two instructions" {
			continue
		}
		before := get(t, m, 0)
		if h := steps(t, m, 0, 1); h.End != c.end || h.Steps != 3 || c.end != api.Runs && h.Cpu != before.Cpu || m.Step(0) != (c.end == api.Runs) {
			t.Errorf("%s: %+v", c.what, h)
		}
	}
	// The text is its bytes, wherever the thread comes from: in the middle of an instruction is another one.
	b := []byte{0x48, 0xB8, 0x90, 0x0F, 0x05, 0, 0, 0, 0, 0} // mov r0, a word that has nop and syscall in it
	p := program(b)
	p.Entry = base + 2
	m := tso.New(p, 77)
	if h := steps(t, m, 0, 2); h.Reg[0] != 77 || h.Ip != base+5 {
		t.Errorf("inside: %+v", h)
	}
	// A step that is a fault leaves the thread as it was, and its stores in the buffer.
	m = build(t, code(store(x, 5), xinst.Inst{Op: xinst.Div, W: 4, A: xinst.R(3)}))
	before := steps(t, m, 0, 1)
	if h := steps(t, m, 0, 1); h.End != api.FaultDiv || h.Cpu != before.Cpu || h.Steps != 2 || m.Step(0) || !m.Drain(0) || m.Drain(0) || word(t, m.Memory(), x) != 5 {
		t.Errorf("division: %+v", h)
	}
	// Examples 9 and 10 of the whole.
	m = build(t, code(set(1, api.TopUser+8), xinst.Inst{Op: xinst.Mov, W: 8, A: xinst.R(0), B: xinst.M(1, xinst.No, 1, 0)}))
	if h := run(t, m, 0); h.End != api.FaultMem || h.Steps != 2 {
		t.Errorf("beyond: %+v", h)
	}
	m = build(t, code(set(1, 5), set(6, fixed), set(7, x+60), xinst.Inst{Op: xinst.Movs, W: 1, Rep: true}))
	h := run(t, m, 0)
	m.Rest()
	if h.End != api.FaultMem || h.Steps != 8 || h.Reg[1] != 1 || word(t, m.Memory(), x+56) != 7<<32 {
		t.Errorf("bytes: %+v", h)
	}
}

// Definitions: the syscalls 0, 1, 60, and those that there are not.
func TestCalls(t *testing.T) {
	twice := code(set(0, 0), sys, set(3, 0), xinst.Inst{Op: xinst.Mov, W: 8, A: xinst.R(3), B: xinst.R(0)}, set(0, 0), sys, set(0, 0), sys)
	for _, c := range []struct {
		in   []uint64
		want [3]uint64
	}{{nil, [3]uint64{0, 0, 0}}, {[]uint64{5}, [3]uint64{5, 5, 5}}, {[]uint64{5, all}, [3]uint64{5, all, 5}}, {[]uint64{1, 2, 3, 4}, [3]uint64{1, 2, 3}}} {
		m := build(t, twice, c.in...)
		one := steps(t, m, 0, 2)
		two := steps(t, m, 0, 4)
		three := steps(t, m, 0, 2)
		if got := [3]uint64{one.Reg[0], two.Reg[0], three.Reg[0]}; got != c.want || one.Reads != 1 || three.Reads != 3 {
			t.Error(c, got)
		}
	}
	m := build(t, code(call(1, 9, 0), call(1, all, 0), call(60, 300, 0), nop))
	h := steps(t, m, 0, 4)
	if h.Reg[0] != 0 || h.Reg[1] != h.Ip || h.Reg[11] != 514 || !slices.Equal(h.Trace, []uint64{9}) || h.End != api.Runs {
		t.Errorf("%+v", h)
	}
	if h = run(t, m, 0); h.End != api.Exits || h.Code != 300 || !slices.Equal(h.Trace, []uint64{9, all}) || h.Steps != 12 || h.Reg[0] != 60 {
		t.Errorf("%+v", h)
	}
	for _, n := range []uint64{4, 5, 59, 61, 256, 1 << 32, 1<<32 + 60, all, 1 << 63} {
		m := build(t, code(set(0, n), store(x, 3), sys, nop))
		if h := run(t, m, 0); h.End != api.FaultSys || h.Code != 0 || h.Reg[0] != n || h.Steps != 3 || h.Reg[1] != h.Ip || word(t, m.Memory(), x) != 3 {
			t.Errorf("%d: %+v", n, h)
		}
	}
}

// Definitions: threads start with stacks that no thread was started with.
func TestStart(t *testing.T) {
	// Each thread but the first begins behind the calls.
	l := code(call(2, 0, 1), call(2, 1, 1), call(2, 2, 0), call(2, 3, 3), call(2, all, 2), call(2, 0, 1<<32), call(2, 0, all), call(60, 1, 0))
	m := build(t, l)
	for k, c := range []struct {
		want    uint64
		threads int
	}{{1, 2}, {all, 2}, {all, 2}, {all, 2}, {2, 3}, {all, 3}, {all, 3}} {
		if h := steps(t, m, 0, 4); h.Reg[0] != c.want || m.Threads() != c.threads {
			t.Error(k, h.Reg[0], m.Threads())
		}
	}
	h := get(t, m, 1)
	if h.Ip != 0 || h.Reg != [16]uint64{4: shared + 128} || h.Stack != 1 || h.Res != 1 || h.C || h.O || h.End != api.Runs || h.Steps != 0 {
		t.Errorf("%+v", h)
	}
	if h := get(t, m, 2); h.Ip != all || h.Reg != [16]uint64{4: 262144 + 64} || h.Stack != 2 {
		t.Errorf("%+v", h)
	}
	c := m.Memory()
	for thread := range 4 {
		if c.May(thread, private, 8, true) != (thread == 0) || c.May(thread, 262144, 8, true) != (thread == 2) || !c.May(thread, shared, 8, true) {
			t.Error("stacks of thread", thread)
		}
	}
	if run(t, m, 1).End != api.FaultMem || run(t, m, 2).End != api.FaultMem {
		t.Error("addresses outside of the text")
	}
	// Eight threads, though some have ended, and no more.
	l = nil
	for k := range 12 {
		l = append(l, call(2, uint64(k), uint64(k+1))...)
	}
	b, _ := text(t, l)
	p := program(b)
	p.Stacks = nil
	for k := range 13 {
		p.Stacks = append(p.Stacks, image.Area{Lo: 65536 * uint64(k+1), Size: 64, Private: k%2 == 0})
	}
	m = tso.New(p)
	for k := range 12 {
		want := uint64(k + 1)
		if k >= 7 {
			want = all
		}
		if h := steps(t, m, 0, 4); h.Reg[0] != want || m.Threads() != min(k+2, 8) {
			t.Error(k, h.Reg[0], m.Threads())
		}
		run(t, m, min(k+1, 7))
	}
	// Stacks are still taken when their threads have ended.
	m = build(t, code(call(2, 0, 1), call(2, 0, 1)))
	steps(t, m, 0, 4)
	if run(t, m, 1).End != api.FaultMem || steps(t, m, 0, 4).Reg[0] != all || m.Threads() != 2 {
		t.Error("a stack is taken twice")
	}
}

// Definitions: how a thread ended, and who waits for it.
func TestAsk(t *testing.T) {
	for _, c := range []struct {
		what string
		body []xinst.Inst
		want uint64
	}{
		{"exit", call(60, 7, 0), 256 + 7},
		{"exit with a great code", call(60, all, 0), 255},
		{"memory", code(load(0, 0)), 512},
		{"division", code(set(3, 0), xinst.Inst{Op: xinst.Div, W: 4, A: xinst.R(3)}), 768},
		{"no instruction", code(nop, ud), 1024},
		{"no syscall", call(77, 7, 0), 1536},
	} {
		m := together(t, call(3, 1, 0), c.body)
		steps(t, m, 0, 3)
		n := get(t, m, 0).Steps
		for range len(c.body) {
			if !m.Waits(0) || m.Waits(1) || m.Step(0) || get(t, m, 0).Steps != n {
				t.Error(c.what, "does not wait")
			}
			steps(t, m, 1, 1)
		}
		if m.Waits(0) || m.Waits(1) || m.Step(1) {
			t.Error(c.what, "waits")
		}
		if h := steps(t, m, 0, 1); h.Reg[0] != c.want || h.End != api.Runs || h.Steps != n+1 {
			t.Errorf("%s: %+v", c.what, h)
		}
	}
	for _, n := range []uint64{0, 1, 2, 8, all, 1 << 32} { // itself, and no threads
		m := build(t, call(3, n, 0))
		steps(t, m, 0, 3)
		if m.Waits(0) || steps(t, m, 0, 1).Reg[0] != all {
			t.Error(n)
		}
	}
}

// Definitions: whoever waits has Sys next, 3 in register 0, and another thread that runs in register 7.
func TestWaits(t *testing.T) {
	// What is not asked yet, not asked, or asked by another number.
	l := code(set(7, 1), set(0, 4), set(0, 3), nop, set(0, 1<<32+3), set(0, 3), set(7, 1<<32+1), set(7, 1), sys)
	m := together(t, l, code(nop))
	for k := range len(l) - 1 {
		if m.Waits(0) {
			t.Error("waits before", k)
		}
		steps(t, m, 0, 1)
	}
	if !m.Waits(0) || m.Step(0) {
		t.Error("does not wait")
	}
	// A store stays in the buffer of one who waits. Two wait for each other for ever, a third one for one of them.
	m = together(t, code(store(x, 1), call(3, 1, 0)), call(3, 0, 0), call(3, 0, 0))
	steps(t, m, 0, 4)
	steps(t, m, 1, 2)
	if !m.Waits(0) || m.Waits(1) {
		t.Error("both ask, but one is not there yet")
	}
	steps(t, m, 1, 1)
	steps(t, m, 2, 3)
	for k := range 3 {
		if !m.Waits(k) || m.Step(k) {
			t.Error("thread", k, "goes on")
		}
	}
	if m.Memory().Pending(0) != 1 || !m.Drain(0) || m.Drain(0) {
		t.Error("the buffer of one who waits")
	}
	// Whoever has ended does not wait, whatever it has in its registers.
	m = together(t, code(set(0, 3), set(7, 1), ud, sys), code(nop))
	if run(t, m, 0).End != api.FaultUd || m.Waits(0) {
		t.Error("one who has ended waits")
	}
}

// P27.2 and rule 1: what there is not.
func TestNil(t *testing.T) {
	var none *tso.Machine
	none.Rest()
	if none.Step(0) || none.Drain(0) || none.Threads() != 0 || none.Memory() != nil || none.Waits(0) {
		t.Error("nil")
	}
	m := build(t, code(store(x, 1), nop))
	steps(t, m, 0, 1)
	for _, thread := range []int{-1, 1, 7, 8, math.MinInt, math.MaxInt} {
		h, ok := m.Thread(thread)
		z, zok := none.Thread(thread)
		if ok || zok || h.Cpu != z.Cpu || h.Res != 0 || h.Trace != nil || h.Stack != 0 || m.Step(thread) || m.Drain(thread) || m.Waits(thread) {
			t.Error(thread)
		}
	}
	if _, ok := none.Thread(0); ok || m.Memory().Pending(0) != 1 || get(t, m, 0).Steps != 1 {
		t.Error("something was done")
	}
}

// Rules 4 and 5: nothing is shared.
func TestShares(t *testing.T) {
	b, _ := text(t, code(call(0, 0, 0), call(1, 5, 0), call(1, 6, 0), call(2, base, 1), store(x, 4)))
	p := program(b)
	in := []uint64{42}
	m := tso.New(p, in...)
	in[0] = 1
	clear(b)
	p.Stacks[1] = image.Area{}
	p.Data[1].Data[0] = 99
	if steps(t, m, 0, 4).Reg[0] != 42 || word(t, m.Memory(), fixed) != 7 {
		t.Error("what came in is shared")
	}
	h := steps(t, m, 0, 4)
	h.Trace[0] = 8
	_ = append(h.Trace, 9)
	h.Reg[0], h.End, h.Ip = 7, 7, 7
	if h := steps(t, m, 0, 4); !slices.Equal(h.Trace, []uint64{5, 6}) {
		t.Error("a trace is shared", h.Trace)
	}
	if h := steps(t, m, 0, 5); h.Reg[0] != 1 || get(t, m, 1).Reg[4] != shared+128 {
		t.Errorf("stacks are shared %+v", h)
	}
	c := m.Memory()
	c.Flush(0)
	c.Put(0, y, 8, 5)
	if m.Memory().Pending(0) != 1 || word(t, m.Memory(), y) != 0 || word(t, m.Memory(), x) != 0 {
		t.Error("memory is shared")
	}
	if m.Rest(); word(t, m.Memory(), x) != 4 || word(t, c, x) != 4 || word(t, c, y) != 5 {
		t.Error("memory")
	}
}
