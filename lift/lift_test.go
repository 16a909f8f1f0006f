package lift_test

import (
	"math"
	"slices"
	"testing"

	"calque/api"
	"calque/ir"
	"calque/lift"
	"calque/mem"
	"calque/xflag"
	"calque/xinst"
	"calque/xsem"
)

const (
	all  = math.MaxUint64
	user = 1 << 47
)

var (
	widths         = []int{1, 2, 4, 8}
	r0, r1, r3, r4 = xinst.R(0), xinst.R(1), xinst.R(3), xinst.R(4)
	imm            = xinst.I()
)

// at is the memory at an address.
func at(to int64) xinst.Opd { return xinst.M(-1, -1, 1, to) }

// cells are those of a cpu.
func cells(c xsem.Cpu) ir.State {
	var s ir.State
	copy(s.Cell[:], c.Reg[:])
	s.Cell[16], s.Cell[17], s.Cell[18] = truth(c.C), truth(c.O), c.Res
	return s
}

// truth is 1 or 0.
func truth(is bool) uint64 {
	if is {
		return 1
	}
	return 0
}

// like reports whether memories are the same, now and at each moment while their buffers are drained.
func like(m, n *mem.Mem) bool {
	m, n = m.Copy(), n.Copy()
	for k := range 8 {
		for m.Pending(k) == n.Pending(k) && m.Drain(k) {
			if n.Drain(k); !m.Same(n) {
				return false
			}
		}
		if m.Pending(k) != n.Pending(k) {
			return false
		}
	}
	return m.Same(n)
}

// must is the code of a valid instruction.
func must(t *testing.T, i xinst.Inst, at uint64) ir.Code {
	t.Helper()
	c, e := lift.Lift(i, at)
	if e != api.OK {
		t.Fatalf("%s: %d", xinst.Show(i), e)
	}
	return c
}

// round is an instruction that is about to be executed by a thread.
type round struct {
	c xsem.Cpu
	t int
	i xinst.Inst
	m *mem.Mem
}

// compare executes the instruction and its code, and holds one against the other (P14.1).
func (x round) compare(t *testing.T, code ir.Code) int {
	t.Helper()
	before := cells(x.c)
	c, s := x.c, before
	m, n := x.m, x.m
	if x.m != nil {
		m, n = x.m.Copy(), x.m.Copy()
	}
	want := c.Step(x.t, x.i, m)
	end, to := ir.Run(code, &s, x.t, n)
	runs := end == api.Runs || end == api.Calls
	switch {
	case end != want:
		t.Fatalf("%s: ends with %d, not %d; %+v", xinst.Show(x.i), end, want, x.c)
	case runs && (to != c.Ip || s != cells(c)):
		t.Fatalf("%s: %d %x, not %d %x; before: %x; %q", xinst.Show(x.i), to, s.Cell, c.Ip, cells(c).Cell, before.Cell, ir.Show(code))
	case m != nil && !like(m, n):
		t.Fatalf("%s: memory is not as it should be; before: %x; %q", xinst.Show(x.i), before.Cell, ir.Show(code))
	}
	return end
}

// The document's example.
func TestExample(t *testing.T) {
	c := must(t, xinst.Inst{Op: xinst.Dec, W: 4, A: r1, Len: 2}, 100)
	if c.At != 100 || c.Next != 102 || c.End != (ir.End{Kind: ir.Goto, To: 102}) {
		t.Errorf("%+v", c)
	}
	for carry := range uint64(2) {
		s := ir.State{Cell: [19]uint64{16: carry, 17: 1}}
		want := ir.State{Cell: [19]uint64{1: 4294967295, 16: carry, 18: all}}
		if end, to := ir.Run(c, &s, 0, nil); end != api.Runs || to != 102 || s != want {
			t.Error(end, to, s)
		}
	}
}

// P14.1, P14.2: what is not valid.
func TestNotValid(t *testing.T) {
	nop := xinst.Inst{Op: xinst.Nop, W: 8, Len: 1}
	for _, i := range []xinst.Inst{
		{}, {Op: xinst.Ud + 1, W: 8}, {Op: xinst.Nop}, {Op: xinst.Nop, W: 8, Len: 16}, {Op: xinst.Nop, W: 8, Len: -1},
		{Op: xinst.Add, W: 8, A: at(0), B: at(0)}, {Op: xinst.Div, W: 8, A: r0}, {Op: xinst.Add, W: 3, A: r0, B: r1},
		{Op: xinst.Add, W: 8, A: xinst.R(16), B: r1}, {Op: xinst.Mov, W: 8, A: at(0), B: r1, Lock: true}, {Op: xinst.Cmov, W: 8, A: r0, B: r1, Cc: 16},
		{Op: math.MinInt, W: math.MaxInt, A: xinst.Opd{Kind: math.MinInt, Reg: math.MaxInt}, Imm: math.MinInt64},
		{Op: xinst.Add, W: 8, A: r0, B: xinst.M(1, 4, 1, 0)}, {Op: xinst.Shl, W: 8, A: r0, B: imm, Imm: 256}, {Op: xinst.Shl, W: 8, A: r0, B: r3},
	} {
		if c, e := lift.Lift(i, 100); e != api.ErrArg || c.At != 0 || c.Next != 0 || len(c.Ops) != 0 || c.End != (ir.End{}) {
			t.Errorf("%+v: %+v %d", i, c, e)
		}
		for _, l := range [][]xinst.Inst{{i}, {nop, i}, {i, nop}, {nop, i, nop}} {
			if c, e := lift.All(100, l...); e != api.ErrArg || len(c) != 0 {
				t.Errorf("%+v: %+v %d", i, c, e)
			}
		}
	}
}

// P14.4: the end of each kind of instruction, by hand.
func TestEnds(t *testing.T) {
	const next = 107
	for _, x := range []struct {
		i    xinst.Inst
		want ir.End // A is not held against it, where it is a step
	}{
		{xinst.Inst{Op: xinst.Jcc, W: 8, Cc: 4, Imm: -8}, ir.End{Kind: ir.If, To: next - 8, Else: next}},
		{xinst.Inst{Op: xinst.Jcc, W: 8, Cc: 5, Imm: 0}, ir.End{Kind: ir.If, To: next, Else: next}},
		{xinst.Inst{Op: xinst.Jcc, W: 8, Cc: 15, Imm: -next - 1}, ir.End{Kind: ir.If, To: all, Else: next}},
		{xinst.Inst{Op: xinst.Jmp, W: 8, Imm: 1000}, ir.End{Kind: ir.Goto, To: next + 1000}},
		{xinst.Inst{Op: xinst.Call, W: 8, Imm: -7}, ir.End{Kind: ir.Goto, To: 100}},
		{xinst.Inst{Op: xinst.Jmp, W: 8, A: r4}, ir.End{Kind: ir.Jump}},
		{xinst.Inst{Op: xinst.Jmp, W: 8, A: at(64)}, ir.End{Kind: ir.Jump}},
		{xinst.Inst{Op: xinst.Call, W: 8, A: r4}, ir.End{Kind: ir.Jump}},
		{xinst.Inst{Op: xinst.Call, W: 8, A: xinst.M(4, -1, 1, 8)}, ir.End{Kind: ir.Jump}},
		{xinst.Inst{Op: xinst.Ret, W: 8}, ir.End{Kind: ir.Jump}},
		{xinst.Inst{Op: xinst.Sys, W: 8}, ir.End{Kind: ir.Sys, To: next}},
		{xinst.Inst{Op: xinst.Ud, W: 8}, ir.End{Kind: ir.Stop, A: api.FaultUd}},
		{xinst.Inst{Op: xinst.Movs, W: 1}, ir.End{Kind: ir.Goto, To: next}},
		{xinst.Inst{Op: xinst.Stos, W: 8}, ir.End{Kind: ir.Goto, To: next}},
		{xinst.Inst{Op: xinst.Movs, W: 1, Rep: true}, ir.End{Kind: ir.If, To: 100, Else: next}},
		{xinst.Inst{Op: xinst.Stos, W: 8, Rep: true}, ir.End{Kind: ir.If, To: 100, Else: next}},
		{xinst.Inst{Op: xinst.Nop, W: 8}, ir.End{Kind: ir.Goto, To: next}},
		{xinst.Inst{Op: xinst.Fence, W: 8}, ir.End{Kind: ir.Goto, To: next}},
		{xinst.Inst{Op: xinst.Push, W: 8, A: r0}, ir.End{Kind: ir.Goto, To: next}},
		{xinst.Inst{Op: xinst.Add, W: 8, A: at(64), B: r0, Lock: true}, ir.End{Kind: ir.Goto, To: next}},
	} {
		x.i.Len = 7
		c := must(t, x.i, 100)
		got := c.End
		if got.Kind == ir.If || got.Kind == ir.Jump {
			got.A = 0
		}
		if got != x.want || c.At != 100 || c.Next != next {
			t.Errorf("%s: %+v", xinst.Show(x.i), c)
		}
	}
	// An instruction at the end of all addresses, and one without a length.
	if c := must(t, xinst.Inst{Op: xinst.Jmp, W: 8, Imm: -3, Len: 5}, all); c.Next != 4 || c.To != 1 {
		t.Errorf("%+v", c)
	}
	if c := must(t, xinst.Inst{Op: xinst.Nop, W: 8}, 100); c.Next != 100 || c.To != 100 {
		t.Errorf("%+v", c)
	}
}

// form is what the steps of code are.
type form struct {
	ir.Code
	count map[int]int // by kinds
}

// formOf counts the steps of code.
func formOf(c ir.Code) form {
	f := form{c, map[int]int{}}
	for _, o := range c.Ops {
		f.count[o.Kind]++
	}
	return f
}

// tested reports whether there is a trap before a step for the address that it uses.
func (f form) tested(k int) bool {
	return slices.ContainsFunc(f.Ops[:k], func(o ir.Op) bool {
		far := f.Ops[o.A]
		return o.Kind == ir.Trap && o.N == api.FaultMem && far.Kind == ir.Alu && far.F == ir.Shr && far.A == f.Ops[k].A &&
			f.Ops[far.B] == ir.Op{Kind: ir.Const, N: 47}
	})
}

// steps checks each step of the code of an instruction.
func (f form) steps(t *testing.T, i xinst.Inst) {
	t.Helper()
	turns := i.Op >= xinst.Rol && i.Op <= xinst.Sar
	used := map[int]bool{f.A: f.Kind == ir.If || f.Kind == ir.Jump}
	for k, o := range f.Ops {
		bad := ""
		switch {
		case o.Kind == ir.Put && o.N >= 16 && !i.Sets():
			bad = "puts a flag"
		case o.Kind == ir.Get && o.N >= 16 && !i.Uses() && !turns:
			bad = "reads a flag"
		case o.Ord != ir.Plain:
			bad = "is strong"
		case slices.Contains([]int{ir.Load, ir.Store, ir.Lx, ir.Sx}, o.Kind) && !f.tested(k):
			bad = "is not tested"
		case o.Kind == ir.Skip && o.N != f.Next:
			bad = "skips elsewhere"
		case o.Kind == ir.Fence && o.F != ir.Full:
			bad = "is a fence that is not full"
		}
		if bad != "" {
			t.Fatalf("%s: step %d %s: %q", xinst.Show(i), k, bad, ir.Show(f.Code))
		}
		for _, n := range o.Uses() {
			used[n] = true
		}
	}
	for k, o := range f.Ops {
		if o.Pure() && !used[k] {
			t.Fatalf("%s: step %d is for nothing: %q", xinst.Show(i), k, ir.Show(f.Code))
		}
	}
}

// check checks the form of the code of an instruction (P14.3, P14.4).
func (f form) check(t *testing.T, i xinst.Inst) {
	t.Helper()
	locked := i.Lock || i.Op == xinst.Xchg && i.A.Kind == xinst.Mem
	fences := 2 * int(truth(locked))
	if i.Op == xinst.Fence || i.Op == xinst.Sys {
		fences = 1
	}
	n := f.count
	if !ir.May(f.Code) || n[ir.Lx] != int(truth(locked)) || n[ir.Sx] != n[ir.Lx] || n[ir.Fence] != fences ||
		n[ir.Load]+n[ir.Lx] != int(truth(i.Loads())) || n[ir.Store]+n[ir.Sx] != int(truth(i.Stores())) || n[ir.Skip] != int(truth(i.Rep)) {
		t.Fatalf("%s: %v: %q", xinst.Show(i), n, ir.Show(f.Code))
	}
	f.steps(t, i)
	if !locked {
		return
	}
	order := []int{}
	for _, o := range f.Ops {
		if o.Kind == ir.Fence || o.Kind == ir.Lx || o.Kind == ir.Sx {
			order = append(order, o.Kind)
		}
	}
	if !slices.Equal(order, []int{ir.Fence, ir.Lx, ir.Sx, ir.Fence}) {
		t.Fatalf("%s: %q", xinst.Show(i), ir.Show(f.Code))
	}
}

// P14.2, P14.5: codes that follow one another, and their effect.
func TestAll(t *testing.T) {
	l := []xinst.Inst{
		{Op: xinst.Mov, W: 4, A: r0, B: imm, Imm: 5, Len: 5},
		{Op: xinst.Push, W: 8, A: r0, Len: 1},
		{Op: xinst.Add, W: 8, A: xinst.M(4, -1, 1, 0), B: imm, Imm: 3, Len: 5},
		{Op: xinst.Pop, W: 8, A: r3, Len: 1},
		{Op: xinst.Cmp, W: 8, A: r3, B: imm, Imm: 8, Len: 4},
		{Op: xinst.Set, W: 1, A: r1, Cc: 4, Len: 3},
	}
	before := slices.Clone(l)
	codes, e := lift.All(100, l...)
	if e != api.OK || len(codes) != len(l) || !slices.Equal(l, before) {
		t.Fatal(e, codes)
	}
	m := mem.New(mem.Area{Lo: 64, Data: make([]byte, 64), Write: true})
	s := cells(*xsem.New(0, 96))
	place := uint64(100)
	for k, c := range codes {
		want := must(t, l[k], place)
		if c.At != place || c.Next != place+uint64(l[k].Len) || !slices.Equal(c.Ops, want.Ops) || c.End != want.End {
			t.Errorf("%d: %+v", k, c)
		}
		if end, to := ir.Run(c, &s, 0, m); end != api.Runs || to != c.Next {
			t.Error(k, end, to)
		}
		place = c.Next
	}
	if s.Cell != [19]uint64{0: 5, 1: 1, 3: 8, 4: 96} || m.Pending(0) != 2 {
		t.Error(s.Cell, m.Pending(0))
	}
	if codes, e = lift.All(100); e != api.OK || len(codes) != 0 {
		t.Error("none", e, codes)
	}
	if codes, e = lift.All(all, xinst.Inst{Op: xinst.Nop, W: 8, Len: 3}, xinst.Inst{Op: xinst.Nop, W: 8, Len: 1}); e != api.OK || codes[1].At != 2 || codes[1].Next != 3 {
		t.Error("round the end", e, codes)
	}
}

// No result shares memory with another one.
func TestApart(t *testing.T) {
	i := xinst.Inst{Op: xinst.Add, W: 8, A: r0, B: r1}
	l, _ := lift.All(0, i, i)
	want := slices.Clone(l[1].Ops)
	c := must(t, i, 0)
	l[0].Ops = append(l[0].Ops, ir.Op{Kind: 99})
	clear(l[0].Ops)
	if !slices.Equal(l[1].Ops, want) || !slices.Equal(c.Ops, want) || !slices.Equal(must(t, i, 0).Ops, want) {
		t.Error("shared")
	}
}

// P14.3: an address that is not below 2^47 is a fault, whatever memory there is.
func TestFar(t *testing.T) {
	b := make([]byte, 32)
	m := mem.New(mem.Area{Lo: user - 8, Data: b, Write: true}, mem.Area{Lo: 1 << 63, Data: b, Write: true}, mem.Area{Lo: all - 31, Data: b, Write: true})
	for _, x := range []struct {
		at   uint64
		want int
	}{{user - 1, api.Runs}, {user, api.FaultMem}, {user + 3, api.FaultMem}, {1 << 63, api.FaultMem}, {1<<63 + 8, api.FaultMem}, {all - 30, api.FaultMem}} {
		for _, i := range []xinst.Inst{
			{Op: xinst.Mov, W: 1, A: r0, B: xinst.M(3, -1, 1, 0)},
			{Op: xinst.Mov, W: 1, A: xinst.M(3, -1, 1, 0), B: r0},
			{Op: xinst.Inc, W: 1, A: xinst.M(3, -1, 1, 0), Lock: true},
			{Op: xinst.Xadd, W: 1, A: xinst.M(3, -1, 1, 0), B: r3},
			{Op: xinst.Ret, W: 8}, {Op: xinst.Push, W: 8, A: r0}, {Op: xinst.Pop, W: 8, A: r0}, {Op: xinst.Call, W: 8},
			{Op: xinst.Movs, W: 1}, {Op: xinst.Stos, W: 1},
		} {
			s := ir.State{Cell: [19]uint64{3: x.at, 4: x.at, 6: x.at, 7: x.at}}
			if i.Op == xinst.Push || i.Op == xinst.Call {
				s.Cell[4] += 8
			}
			if end, _ := ir.Run(must(t, i, 0), &s, 0, m.Copy()); end != x.want {
				t.Errorf("%s at %x: %d", xinst.Show(i), x.at, end)
			}
		}
	}
	// Each of two addresses is tested.
	for _, x := range []struct {
		i    xinst.Inst
		from uint64
		to   uint64
		want int
	}{
		{xinst.Inst{Op: xinst.Movs, W: 1}, user - 1, user - 2, api.Runs}, {xinst.Inst{Op: xinst.Movs, W: 1}, user, user - 2, api.FaultMem},
		{xinst.Inst{Op: xinst.Movs, W: 1}, user - 1, 1 << 63, api.FaultMem},
		{xinst.Inst{Op: xinst.Push, W: 8, A: xinst.M(6, -1, 1, 0)}, user - 8, user, api.Runs}, {xinst.Inst{Op: xinst.Push, W: 8, A: xinst.M(6, -1, 1, 0)}, user - 8, 1<<63 + 8, api.FaultMem},
		{xinst.Inst{Op: xinst.Pop, W: 8, A: xinst.M(6, -1, 1, 0)}, user - 8, user - 8, api.Runs}, {xinst.Inst{Op: xinst.Pop, W: 8, A: xinst.M(6, -1, 1, 0)}, 1 << 63, user - 8, api.FaultMem},
	} {
		s := ir.State{Cell: [19]uint64{4: x.to, 6: x.from, 7: x.to}}
		if end, _ := ir.Run(must(t, x.i, 0), &s, 0, m.Copy()); end != x.want {
			t.Errorf("%s from %x to %x: %d", xinst.Show(x.i), x.from, x.to, end)
		}
	}
}

// P14.1: a fault of a locked instruction leaves memory as its step does: with all earlier stores.
func TestLockedFaults(t *testing.T) {
	for _, to := range []int64{0, 96, -8} {
		for _, i := range []xinst.Inst{
			{Op: xinst.Add, W: 8, A: at(to), B: r1, Lock: true}, {Op: xinst.Xchg, W: 1, A: at(to), B: r1}, {Op: xinst.Cas, W: 4, A: at(to), B: r1, Lock: true},
			{Op: xinst.Add, W: 8, A: at(to), B: r1},
		} {
			m := mem.New(mem.Area{Lo: 64, Data: make([]byte, 16), Write: true}, mem.Area{Lo: 96, Data: make([]byte, 16)})
			m.Store(1, 64, 8, 77)
			x := round{c: *xsem.New(100, 0), t: 1, i: i, m: m}
			if end := x.compare(t, must(t, i, 100)); end != api.FaultMem {
				t.Error(xinst.Show(i), end)
			}
		}
	}
}

// P14.1: a buffer that is full.
func TestFullBuffer(t *testing.T) {
	m := mem.New(mem.Area{Lo: 64, Data: make([]byte, 16), Write: true})
	for n := range 65536 {
		m.Store(1, 64, 8, uint64(n))
	}
	i := xinst.Inst{Op: xinst.Inc, W: 8, A: at(66), Len: 3}
	c := *xsem.New(100, 0)
	n, s := m.Copy(), cells(c)
	want := c.Step(1, i, m)
	if end, to := ir.Run(must(t, i, 100), &s, 1, n); end != want || to != c.Ip || s != cells(c) || n.Pending(1) != 65536 || !m.Same(n) {
		t.Error(end, to, n.Pending(1))
	}
}

// P14.1: a thread that is not valid, or no memory, is a fault for what touches memory, and for nothing else.
func TestNoMemory(t *testing.T) {
	for _, i := range []xinst.Inst{{Op: xinst.Add, W: 8, A: r0, B: r1}, {Op: xinst.Mov, W: 8, A: r0, B: at(64)}, {Op: xinst.Inc, W: 1, A: at(64), Lock: true}, {Op: xinst.Fence, W: 8}, {Op: xinst.Sys, W: 8}} {
		c := must(t, i, 100)
		for _, thread := range []int{-1, 0, 8} {
			round{c: *xsem.New(100, 64), t: thread, i: i}.compare(t, c)
		}
		round{c: *xsem.New(100, 64), t: 8, i: i, m: mem.New(mem.Area{Lo: 64, Data: make([]byte, 8), Write: true})}.compare(t, c)
	}
}

// thunks are flags of all kinds.
func thunks(res uint64) []xflag.Thunk {
	return []xflag.Thunk{{Res: res}, {C: true, Res: res}, {O: true, Res: res}, {C: true, O: true, Res: res}}
}

// P14.1: all conditions, with all flags.
func TestConditions(t *testing.T) {
	for cc := range 16 {
		set, jump := xinst.Inst{Op: xinst.Set, W: 1, A: r0, Cc: cc, Len: 3}, xinst.Inst{Op: xinst.Jcc, W: 8, Cc: cc, Imm: 50, Len: 2}
		move, high := xinst.Inst{Op: xinst.Cmov, W: 4, A: r0, B: r1, Cc: cc, Len: 3}, xinst.Inst{Op: xinst.Cmov, W: 2, A: r0, B: r1, Cc: cc, Len: 3}
		for _, i := range []xinst.Inst{set, jump, move, high} {
			code := must(t, i, 100)
			for low := range uint64(256) {
				for _, top := range []uint64{0, 1 << 63, 0x7FFFFFFFFFFFFF00, 0x100, all &^ 255} {
					for _, f := range thunks(top | low) {
						c := xsem.Cpu{Thunk: f, Ip: 100}
						c.Reg[0], c.Reg[1] = 0x1122334455667788, 0x99AABBCCDDEEFF00
						round{c: c, i: i}.compare(t, code)
					}
				}
			}
		}
	}
}

// P14.1: the flags as a word.
func TestPack(t *testing.T) {
	i := xinst.Inst{Op: xinst.Sys, W: 8, Len: 2}
	code := must(t, i, 100)
	for low := range uint64(256) {
		for _, top := range []uint64{0, 1 << 63, 0x100} {
			for _, f := range thunks(top | low) {
				if end := (round{c: xsem.Cpu{Thunk: f, Ip: 100}, i: i}).compare(t, code); end != api.Calls {
					t.Fatal(end)
				}
			}
		}
	}
}

// edges are numbers near the ends of all widths.
func edges() []uint64 {
	var l []uint64
	for _, w := range widths {
		top := uint64(1) << (8*w - 1)
		l = append(l, top-1, top, top+1, 2*top-1, 2*top, 2*top+1)
	}
	l = append(l, 0, 1, 2, 3, 0x55AA55AA55AA55AA, 0xAA55AA55AA55AA55, 0x8080808080808080, 0x7F7F7F7F7F7F7F7F)
	slices.Sort(l)
	return slices.Compact(l)
}

// P14.1: numbers near the ends of all widths, with all operations of numbers.
func TestEdges(t *testing.T) {
	l := edges()
	for op := xinst.Add; op <= xinst.Sign; op++ {
		for _, w := range widths {
			for _, i := range []xinst.Inst{{A: r0, B: r1}, {A: r3, B: r1}, {A: r3}, {}, {A: r3, B: r1, W2: 1}, {A: r3, B: r1, W2: 2}, {A: r3, B: r1, W2: 4}} {
				i.Op, i.W, i.Len = op, w, 3
				if !xinst.May(i) {
					continue
				}
				code := must(t, i, 100)
				for k, a := range l {
					for _, b := range l {
						c := xsem.Cpu{Thunk: thunks(a ^ b)[k%4], Ip: 100}
						c.Reg[0], c.Reg[1], c.Reg[2], c.Reg[3] = a, b, b>>1, b
						round{c: c, i: i}.compare(t, code)
						c.Reg[3] = a
						c.C = !c.C
						round{c: c, i: i}.compare(t, code)
					}
				}
			}
		}
	}
}

// P14.1: all numbers of one byte, with all operations of two of them.
func TestBytes(t *testing.T) {
	for _, op := range []int{xinst.Add, xinst.Adc, xinst.Sub, xinst.Sbb, xinst.Cmp, xinst.And, xinst.Or, xinst.Xor, xinst.Test, xinst.Cas, xinst.Xadd, xinst.Mul, xinst.Smul} {
		i := xinst.Inst{Op: op, W: 1, A: r3, B: r1, Len: 3}
		if op == xinst.Mul || op == xinst.Smul {
			i.B = xinst.Opd{}
		}
		code := must(t, i, 100)
		for n := range uint64(1 << 16) {
			c := xsem.Cpu{Thunk: xflag.Thunk{C: n%2 == 0, O: n%3 == 0, Res: n}, Ip: 100}
			c.Reg[0], c.Reg[1], c.Reg[3] = 0x1234567800+n>>8, 0x1234567800+n&255, 0x7777700+n&255
			round{c: c, i: i}.compare(t, code)
			if op == xinst.Adc || op == xinst.Sbb {
				c.C = !c.C
				round{c: c, i: i}.compare(t, code)
			}
		}
	}
}

// P14.1: quotients of all kinds of numbers of one and two bytes.
func TestQuotients(t *testing.T) {
	ends := map[int]int{}
	for _, op := range []int{xinst.Div, xinst.Sdiv} {
		i := xinst.Inst{Op: op, W: 1, A: r3, Len: 3}
		code := must(t, i, 100)
		for n := range uint64(1 << 16) {
			for _, d := range []uint64{0, 1, 2, 3, 7, 16, 100, 127, 128, 129, 254, 255} {
				c := xsem.Cpu{Ip: 100}
				c.Reg[0], c.Reg[3] = 0x55550000+n, 0xFFFF00+d
				ends[round{c: c, i: i}.compare(t, code)]++
			}
		}
	}
	if ends[api.Runs] < 1000 || ends[api.FaultDiv] < 1000 {
		t.Error(ends)
	}
}

// P14.1: numbers shifted and rotated by all counts, told by the instruction and by register 1.
func TestTurns(t *testing.T) {
	l := edges()
	for op := xinst.Rol; op <= xinst.Sar; op++ {
		for _, w := range widths {
			for n := range int64(256) {
				fixed, counted := xinst.Inst{Op: op, W: w, A: r0, B: imm, Imm: n, Len: 3}, xinst.Inst{Op: op, W: w, A: r0, B: r1, Len: 3}
				codes := []ir.Code{must(t, fixed, 100), must(t, counted, 100)}
				for k, a := range l {
					c := xsem.Cpu{Thunk: thunks(a)[k%4], Ip: 100}
					c.Reg[0], c.Reg[1] = a, 0xABCDEF00+uint64(n)
					round{c: c, i: fixed}.compare(t, codes[0])
					round{c: c, i: counted}.compare(t, codes[1])
				}
			}
			self := xinst.Inst{Op: op, W: w, A: r1, B: r1, Len: 3}
			code := must(t, self, 100)
			for _, a := range l {
				c := xsem.Cpu{Ip: 100}
				c.Reg[1] = a
				round{c: c, i: self}.compare(t, code)
			}
		}
	}
}
