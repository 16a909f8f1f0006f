package tso_test

import (
	"fmt"
	"maps"
	"slices"
	"strings"
	"testing"

	"calque/api"
	"calque/image"
	"calque/mem"
	"calque/tso"
	"calque/xdec"
	"calque/xinst"
)

// dice are numbers that look as if they were thrown, always the same ones.
type dice struct{ n uint64 }

func (d *dice) word() uint64 {
	d.n = d.n*6364136223846793005 + 1442695040888963407
	x := d.n ^ d.n>>29
	return x*0x9E3779B97F4A7C15 ^ x>>31
}

func (d *dice) below(n int) int { return int(d.word() >> 33 % uint64(n)) }

// pick is one of some things.
func pick[T any](d *dice, l ...T) T { return l[d.below(len(l))] }

// act lets a thread execute a step, or drain a store.
func act(m *tso.Machine, a int) bool {
	if a%2 == 0 {
		return m.Step(a / 2)
	}
	return m.Drain(a / 2)
}

// ends are the registers 8 and 9 of all threads in all runs, each once.
func ends(make func() *tso.Machine) string {
	seen := map[string]int{}
	var visit func(acts []int)
	visit = func(acts []int) {
		more := false
		for a := 0; ; a++ {
			m := make()
			if a == 2*m.Threads() {
				break
			}
			for _, b := range acts {
				act(m, b)
			}
			if act(m, a) {
				more = true
				visit(append(slices.Clone(acts), a))
			}
		}
		if !more {
			m := make()
			for _, b := range acts {
				act(m, b)
			}
			s := ""
			for k := range m.Threads() {
				h, _ := m.Thread(k)
				s += fmt.Sprint(h.Reg[8], h.Reg[9])
				s = strings.ReplaceAll(s, " ", "")
			}
			seen[s]++
		}
	}
	visit(nil)
	return strings.Join(slices.Sorted(maps.Keys(seen)), " ")
}

// Examples 2 to 4 of the whole, and others: all runs of two threads. Registers 8 and 9 of both are told.
func TestRuns(t *testing.T) {
	add := xinst.Inst{Op: xinst.Add, W: 8, A: at(x + 32), B: xinst.I(), Imm: 1, Lock: true}
	swap := func(a int64) xinst.Inst {
		return xinst.Inst{Op: xinst.Xchg, W: 8, A: at(a), B: xinst.R(10)}
	}
	one := set(10, 1)
	for _, c := range []struct {
		what string
		l    [2][]xinst.Inst
		want string
	}{
		{"store, load", [2][]xinst.Inst{code(store(x, 1), load(8, y)), code(store(y, 1), load(8, x))}, "0000 0010 1000 1010"},
		{"a fence between", [2][]xinst.Inst{code(store(x, 1), barr, load(8, y)), code(store(y, 1), barr, load(8, x))}, "0010 1000 1010"},
		{"a fence on one side", [2][]xinst.Inst{code(store(x, 1), barr, load(8, y)), code(store(y, 1), load(8, x))}, "0000 0010 1000 1010"},
		{"a locked addition between", [2][]xinst.Inst{code(store(x, 1), add, load(8, y)), code(store(y, 1), add, load(8, x))}, "0010 1000 1010"},
		{"exchanges", [2][]xinst.Inst{code(one, swap(x), load(8, y)), code(one, swap(y), load(8, x))}, "0010 1000 1010"},
		{"syscalls between", [2][]xinst.Inst{code(store(x, 1), sys, load(8, y)), code(store(y, 1), sys, load(8, x))}, "0010 1000 1010"},
		{"a flag", [2][]xinst.Inst{code(store(x, 1), store(y, 1)), code(load(8, y), load(9, x))}, "0000 0001 0011"},
		{"a flag, and its own store", [2][]xinst.Inst{code(store(x, 1), store(y, 1)), code(store(x, 0), load(8, y), load(9, x))}, "0000 0001 0010 0011"},
		{"load, store", [2][]xinst.Inst{code(load(8, y), store(x, 1)), code(load(8, x), store(y, 1))}, "0000 0010 1000"},
		{"own stores", [2][]xinst.Inst{code(store(x, 1), load(8, x), load(9, y)), code(store(y, 1), load(8, y), load(9, x))}, "1010 1011 1110 1111"},
	} {
		if got := ends(func() *tso.Machine { return together(t, c.l[0], c.l[1]) }); got != c.want {
			t.Errorf("%s: %s, not %s", c.what, got, c.want)
		}
	}
}

// Example 5 of the whole: two threads increase a cell ten times each, with locked additions; and without, then some are lost.
func TestIncrease(t *testing.T) {
	d, less := &dice{}, 0
	for k := range 100 {
		add := xinst.Inst{Op: xinst.Add, W: 8, A: at(x), B: xinst.I(), Imm: 1, Lock: k%2 == 0}
		body := code(slices.Repeat([]xinst.Inst{add}, 10), call(60, 1, 0))
		m := together(t, body, body)
		for get(t, m, 0).End == api.Runs || get(t, m, 1).End == api.Runs {
			act(m, d.below(4))
		}
		v := word(t, m.Memory(), x)
		if k%2 == 0 && v != 20 || v > 20 {
			t.Error(k, v)
		}
		if v < 20 {
			less++
		}
	}
	if less == 0 {
		t.Error("no addition is lost")
	}
}

// spot is memory near the beginning of the data, or at its end.
func (d *dice) spot() xinst.Opd { return at(x + int64(pick(d, 0, 0, 1, 3, 8, 8, 12, 16, 56, 60))) }

// inst is an instruction that may come with others.
func (d *dice) inst() xinst.Inst {
	w, r := pick(d, 1, 2, 4, 8), xinst.R(pick(d, 0, 1, 2, 3))
	switch d.below(12) {
	case 0, 1:
		return xinst.Inst{Op: xinst.Mov, W: w, A: d.spot(), B: r}
	case 2:
		return xinst.Inst{Op: xinst.Mov, W: w, A: r, B: d.spot()}
	case 3:
		return xinst.Inst{Op: xinst.Add, W: w, A: d.spot(), B: r, Lock: d.below(3) == 0}
	case 4:
		return xinst.Inst{Op: xinst.Xadd, W: w, A: d.spot(), B: r, Lock: d.below(2) == 0}
	case 5:
		return xinst.Inst{Op: xinst.Adc, W: w, A: r, B: d.spot()}
	case 6:
		return pick(d, push5, push5, xinst.Inst{Op: xinst.Pop, W: 8, A: d.spot()}, barr, nop)
	case 7:
		return xinst.Inst{Op: xinst.Movs, W: w, Rep: d.below(3) > 0}
	case 8:
		return set(r.Reg, d.word()>>pick(d, 0, 40, 60))
	case 9:
		return set(pick(d, 6, 7), x+uint64(d.below(60)))
	case 10:
		return set(1, uint64(d.below(4)))
	}
	return xinst.Inst{Op: xinst.Cas, W: w, A: d.spot(), B: r}
}

// show is all that is known of a thread.
func show(h tso.Thread) string { return fmt.Sprintf("%+v", h) }

// P27.3: when the stores of a thread that runs alone are drained does not matter.
func TestAlone(t *testing.T) {
	d := &dice{}
	for range 2000 {
		var l []xinst.Inst
		for range 2 + d.below(14) {
			l = append(l, d.inst())
			if d.below(6) == 0 {
				l = append(l, call(d.below(2), d.word(), 0)...)
			}
		}
		b, _ := text(t, code(l, call(60, 3, 0)))
		var want string
		var memory *mem.Mem
		for way := range 4 { // never, at once, and now and then
			m := tso.New(program(b), 5, 6)
			for m.Step(0) {
				for way == 1 && m.Drain(0) || way > 1 && d.below(way) == 0 && m.Drain(0) {
				}
			}
			m.Rest()
			if got := show(get(t, m, 0)); way == 0 {
				want, memory = got, m.Memory()
			} else if got != want || !m.Memory().Same(memory) {
				t.Fatalf("way %d: %s, not %s", way, got, want)
			}
		}
	}
}

// P27.4: stores reach memory one by one, in the order of their instructions.
func TestInOrder(t *testing.T) {
	m := build(t, code(store(x, 1), store(y, 2), store(x, 3), push5, store(y, 4)))
	steps(t, m, 0, 5)
	for _, want := range [][3]uint64{{0, 0, 0}, {1, 0, 0}, {1, 2, 0}, {3, 2, 0}, {3, 2, 5}, {3, 4, 5}} {
		c := m.Memory()
		if got := [3]uint64{word(t, c, x), word(t, c, y), word(t, c, private+56)}; got != want {
			t.Error(got, want)
		}
		if m.Drain(0) == (want[1] == 4) {
			t.Error("Drain", want)
		}
	}
	// What takes place with an empty buffer, and what does not.
	at := xinst.M(xinst.No, xinst.No, 1, y)
	for _, c := range []struct {
		i    xinst.Inst
		left int
	}{
		{barr, 0}, {sys, 0}, {xinst.Inst{Op: xinst.Xchg, W: 1, A: at, B: xinst.R(3)}, 0}, {xinst.Inst{Op: xinst.Inc, W: 1, A: at, Lock: true}, 0}, {xinst.Inst{Op: xinst.Cas, W: 1, A: at, B: xinst.R(3), Lock: true}, 0},
		{nop, 2}, {xinst.Inst{Op: xinst.Inc, W: 1, A: at}, 3}, {xinst.Inst{Op: xinst.Cas, W: 1, A: at, B: xinst.R(3)}, 3}, {load(0, y), 2}, {ud, 2},
	} {
		m := build(t, code(store(x, 1), store(x+1, 2), c.i))
		if steps(t, m, 0, 3); m.Memory().Pending(0) != c.left || (word(t, m.Memory(), x) == 513) != (c.left == 0) {
			t.Error(xinst.Show(c.i), m.Memory().Pending(0))
		}
	}
	// All buffers are drained, thread by thread: the last one's stores remain.
	m = together(t, code(store(x, 1), store(y, 1)), code(store(x, 2)), code(store(x, 3), store(y+8, 3)))
	for _, k := range []int{2, 1, 0} {
		steps(t, m, k, 1)
	}
	steps(t, m, 0, 1)
	steps(t, m, 2, 1)
	m.Rest()
	if c := m.Memory(); word(t, c, x) != 3 || word(t, c, y) != 1 || word(t, c, y+8) != 3 || c.Pending(0)+c.Pending(1)+c.Pending(2) != 0 {
		t.Error("Rest")
	}
	m.Rest()
}

// state is what a machine shows of itself.
type state struct {
	l []tso.Thread
	m *mem.Mem
}

func stateOf(m *tso.Machine) state {
	s := state{m: m.Memory()}
	for k := range m.Threads() {
		h, _ := m.Thread(k)
		s.l = append(s.l, h)
	}
	return s
}

// text is a state's threads, memory and buffers.
func (s state) text() string {
	out := ""
	for _, h := range s.l {
		out += show(h) + "\n"
	}
	m := s.m.Copy()
	for k := range 9 {
		out += fmt.Sprint(m.Pending(k), " ")
		for m.Drain(k) {
			out += fmt.Sprint(m.Areas()[1], " ")
		}
	}
	return out + fmt.Sprint(m.Areas())
}

// next is a second reading of the chapter: what a step of a thread makes of a state, or false.
func (s state) next(p image.Image, in []uint64, t int) (state, bool) {
	if t >= len(s.l) || s.l[t].End != api.Runs {
		return s, false
	}
	s.l = slices.Clone(s.l)
	h := &s.l[t]
	inside := h.Ip >= p.Addr && h.Ip < p.Addr+p.Size
	i, none := xinst.Inst{}, api.ErrRange
	if inside {
		i, none = xdec.Decode(p.Seg.Data[h.Ip-p.Addr:])
	}
	asks := none == api.OK && i.Op == xinst.Sys
	for k, other := range s.l {
		if asks && h.Reg[0] == 3 && k != t && h.Reg[7] == uint64(k) && other.End == api.Runs {
			return s, false
		}
	}
	h.Steps++
	switch {
	case !inside:
		h.End = api.FaultMem
	case none != api.OK:
		h.End = api.FaultUd
	case !asks:
		s.m = s.m.Copy()
		h.End = h.Step(t, i, s.m)
	default:
		s.m = s.m.Copy()
		h.Step(t, i, s.m)
		return s.called(p, in, t), true
	}
	return s, true
}

// called is what a syscall makes of a state.
func (s state) called(p image.Image, in []uint64, t int) state {
	h := &s.l[t]
	switch number := h.Reg[0]; number {
	case 0:
		h.Reg[0] = 0
		if len(in) > 0 {
			h.Reg[0] = slices.Repeat(in, 100)[t+h.Reads]
		}
		h.Reads++
	case 1:
		h.Trace = append(slices.Clone(h.Trace), h.Reg[7])
		h.Reg[0] = 0
	case 2:
		stack := h.Reg[6]
		may := len(s.l) < 8 && stack < uint64(len(p.Stacks)) && !slices.ContainsFunc(s.l, func(h tso.Thread) bool { return uint64(h.Stack) == stack })
		if !may {
			h.Reg[0] = all
			break
		}
		h.Reg[0] = uint64(len(s.l))
		begun := tso.Thread{Stack: int(stack)}
		begun.Ip, begun.Reg[4], begun.Res = h.Reg[7], p.Stacks[stack].Lo+p.Stacks[stack].Size, 1
		s.m.Own(len(s.l), 1+len(p.Data)+int(stack))
		s.l = append(s.l, begun)
	case 3:
		asked := h.Reg[7]
		h.Reg[0] = all
		for k, other := range s.l {
			if k != t && asked == uint64(k) {
				h.Reg[0] = other.Code + uint64(other.End)*256
			}
		}
	case 60:
		h.End, h.Code = api.Exits, h.Reg[7]
	default:
		h.End = api.FaultSys
	}
	return s
}

// Everything against the second reading, with thrown programs and runs.
func TestThrown(t *testing.T) {
	d := &dice{}
	var ended [api.Calls]int
	waited := 0
	for range 300 {
		var l []xinst.Inst
		for range 4 + d.below(24) {
			switch d.below(4) {
			case 0:
				l = append(l, d.inst())
			default:
				number := pick(d, 0, 1, 2, 2, 2, 3, 3, 60, 61)
				l = append(l, call(number, pick(d, uint64(0), 1, 2, base, base, base+5, base+7, base+uint64(d.below(200))), uint64(d.below(5)))...)
			}
		}
		b, _ := text(t, l)
		p := program(b)
		in := []uint64{3, 4, 5}[:d.below(4)]
		m := tso.New(p, in...)
		for range 150 {
			k := d.below(m.Threads())
			if d.below(4) == 0 {
				m.Drain(k)
				continue
			}
			before := stateOf(m)
			want, ok := before.next(p, in, k)
			waits := !ok && before.l[k].End == api.Runs
			if waits {
				waited++
			}
			if m.Waits(k) != waits || m.Step(k) != ok || stateOf(m).text() != want.text() {
				t.Fatalf("thread %d, %t:\n%s\nnot\n%s", k, ok, stateOf(m).text(), want.text())
			}
		}
		for k := range m.Threads() {
			h, _ := m.Thread(k)
			ended[h.End]++
		}
	}
	if waited == 0 {
		t.Error("no thread waits")
	}
	for _, end := range []int{api.Runs, api.Exits, api.FaultMem, api.FaultUd, api.FaultSys} {
		if ended[end] == 0 {
			t.Error("no thread ended with", end, ended)
		}
	}
}
