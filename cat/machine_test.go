package cat_test

import (
	"fmt"
	"maps"
	"slices"
	"testing"

	"calque/api"
	"calque/cat"
	"calque/elf"
	"calque/image"
	"calque/tso"
	"calque/xenc"
	"calque/xinst"
)

// op is what a thread of a small program does: s a store of a number of its own, l a load, f a fence, a a locked addition of 1.
type op struct {
	kind byte
	at   uint64
}

const (
	textAt = 4096
	dataAt = 8192 // where the locations begin
	room   = 256  // of the code of a thread
	begins = 8    // instructions of a thread before its program
)

// insts are the instructions of a thread. What it reads is in registers 8 and above, which are 1 at first.
func insts(thread int, l []op) []xinst.Inst {
	var out []xinst.Inst
	for k := range begins {
		out = append(out, xinst.Inst{Op: xinst.Mov, W: 8, A: xinst.R(8 + k), B: xinst.I(), Imm: 1})
	}
	for k, o := range l {
		m, reg := xinst.M(xinst.No, xinst.No, 1, int64(dataAt+o.at)), xinst.R(8+k)
		switch o.kind {
		case 's':
			out = append(out, xinst.Inst{Op: xinst.Mov, W: 8, A: m, B: xinst.I(), Imm: int64(number(thread, k))})
		case 'l':
			out = append(out, xinst.Inst{Op: xinst.Mov, W: 8, A: reg, B: m})
		case 'f':
			out = append(out, xinst.Inst{Op: xinst.Fence, W: 8})
		case 'a':
			out = append(out, xinst.Inst{Op: xinst.Xadd, W: 8, A: m, B: reg, Lock: true})
		}
	}
	return out
}

// number is what a thread stores by its k-th operation.
func number(thread, k int) uint64 { return uint64(100*(thread+1) + 10*k) }

// program is the image of all threads. Thread 0 starts the others.
func program(t *testing.T, l [][]op) image.Image {
	t.Helper()
	var b []byte
	for k, ops := range l {
		code := insts(k, ops)
		if k == 0 {
			var first []xinst.Inst
			for j := 1; j < len(l); j++ {
				for _, p := range [][2]int{{0, 2}, {7, textAt + room*j}, {6, j}} {
					first = append(first, xinst.Inst{Op: xinst.Mov, W: 8, A: xinst.R(p[0]), B: xinst.I(), Imm: int64(p[1])})
				}
				first = append(first, xinst.Inst{Op: xinst.Sys, W: 8})
			}
			code = slices.Concat(first, code)
		}
		part, _, e := xenc.All(code...)
		if e != api.OK || len(part) > room {
			t.Fatal("no bytes", e, len(part))
		}
		b = append(b, part...)
		b = append(b, make([]byte, room*(k+1)-len(b))...)
	}
	m := image.Image{Seg: elf.Seg{Addr: textAt, Size: uint64(len(b)), Data: b}, Data: []elf.Seg{{Flags: elf.W, Addr: dataAt, Size: 256}}, Entry: textAt}
	for k := range l {
		m.Stacks = append(m.Stacks, image.Area{Lo: uint64(65536 * (k + 1)), Size: 64})
	}
	return m
}

// start is a machine of which every thread is where its program begins.
func start(t *testing.T, m image.Image, threads int) *tso.Machine {
	t.Helper()
	x := tso.New(m)
	for k := range threads {
		n := begins
		if k == 0 {
			n += 4 * (threads - 1)
		}
		for range n {
			if !x.Step(k) {
				t.Fatal("no step")
			}
		}
	}
	return x
}

// told is what may be seen of a run: what threads have read, and memory.
func told(m *tso.Machine, l [][]op) string {
	s := ""
	for k, ops := range l {
		h, _ := m.Thread(k)
		for j, o := range ops {
			if o.kind == 'l' || o.kind == 'a' {
				s += fmt.Sprint(h.Reg[8+j], " ")
			}
		}
	}
	c := m.Memory()
	for _, at := range []uint64{x, y} {
		v, _ := c.Load(7, dataAt+at, 8) // a thread without stores
		s += fmt.Sprint("; ", v)
	}
	return s
}

// runs are the ends of all runs of a program on the machine of x86-64.
func runs(t *testing.T, l [][]op) []string {
	t.Helper()
	m := program(t, l)
	ends, seen := map[string]int{}, map[string]int{}
	ways := [][]int{nil} // to states that were not seen before; an act is a thread and whether it drains
	for len(ways) > 0 {
		way := ways[0]
		ways = ways[1:]
		ended := true
		for a := range 2 * len(l) {
			y := start(t, m, len(l))
			first, _ := y.Thread(a / 2)
			for _, b := range way {
				act(y, b)
			}
			h, _ := y.Thread(a / 2)
			if a%2 == 0 && h.Steps-first.Steps == len(l[a/2]) || !act(y, a) {
				continue
			}
			ended = false
			// The numbers of waiting stores follow from where their thread is.
			key := told(y, l)
			for k := range l {
				h, _ := y.Thread(k)
				key += fmt.Sprint(" ", h.Steps, " ", y.Memory().Pending(k))
			}
			if _, is := seen[key]; !is {
				seen[key] = 0
				ways = append(ways, append(slices.Clone(way), a))
			}
		}
		if ended {
			y := start(t, m, len(l))
			for _, b := range way {
				act(y, b)
			}
			ends[told(y, l)]++
		}
	}
	return slices.Sorted(maps.Keys(ends))
}

// act lets a thread execute a step, or drain a store.
func act(m *tso.Machine, a int) bool {
	if a%2 == 0 {
		return m.Step(a / 2)
	}
	return m.Drain(a / 2)
}

// translated are the events of a program whose accesses are kept in order by acquires and releases, or by fences, as layers 14 and 17 do. The numbers that Writes write are beside: 0 for one more than was read right before.
func translated(l [][]op, fences bool) ([]cat.Event, []uint64) {
	var events []cat.Event
	var numbers []uint64
	add := func(v uint64, l ...cat.Event) {
		for _, e := range l {
			events, numbers = append(events, e), append(numbers, v)
		}
	}
	for k, ops := range l {
		for j, o := range ops {
			switch {
			case o.kind == 's' && fences:
				add(number(k, j), f(k, cat.Stores), w(k, o.at, ""))
			case o.kind == 's':
				add(number(k, j), w(k, o.at, "l"))
			case o.kind == 'l' && fences:
				add(0, r(k, o.at, ""), f(k, cat.Loads))
			case o.kind == 'l':
				add(0, r(k, o.at, "q"))
			case o.kind == 'f':
				add(0, f(k, cat.Full))
			case o.kind == 'a':
				add(0, f(k, cat.Full), r(k, o.at, "ea"), w(k, o.at, "el"), f(k, cat.Full))
			}
		}
	}
	return events, numbers
}

// orders are all orders of a list.
func orders(l []int) [][]int {
	if len(l) == 0 {
		return [][]int{nil}
	}
	var out [][]int
	for k := range l {
		rest := slices.Delete(slices.Clone(l), k, k+1)
		for _, o := range orders(rest) {
			out = append(out, append([]int{l[k]}, o...))
		}
	}
	return out
}

// outcome is what may be seen of an execution.
func outcome(e cat.Exec, numbers []uint64) string {
	var value func(i int) uint64
	value = func(i int) uint64 {
		switch {
		case i < 0:
			return 0
		case e.L[i].Kind == cat.Read:
			return value(e.Rf[i])
		case numbers[i] == 0:
			return value(i-1) + 1
		}
		return numbers[i]
	}
	s, last := "", map[uint64]int{x: -1, y: -1}
	for i, v := range e.L {
		if v.Kind == cat.Read {
			s += fmt.Sprint(value(i), " ")
		}
	}
	for _, i := range e.Co {
		last[e.L[i].At] = i
	}
	return s + fmt.Sprint("; ", value(last[x])) + fmt.Sprint("; ", value(last[y]))
}

// executions are the outcomes of all executions of events that are allowed.
func executions(t *testing.T, l []cat.Event, numbers []uint64) []string {
	t.Helper()
	seen := map[string]int{}
	var writes [2][]int
	for k, e := range l {
		if e.Kind == cat.Write && e.At == x {
			writes[0] = append(writes[0], k)
		} else if e.Kind == cat.Write {
			writes[1] = append(writes[1], k)
		}
	}
	rf := slices.Repeat([]int{-1}, len(l))
	var visit func(k int)
	visit = func(k int) {
		if k < len(l) {
			visit(k + 1)
			if l[k].Kind == cat.Read {
				for _, i := range writes[l[k].At/y] {
					rf[k] = i
					visit(k + 1)
				}
				rf[k] = -1
			}
			return
		}
		for _, a := range orders(writes[0]) {
			for _, b := range orders(writes[1]) {
				e := cat.Exec{L: l, Rf: rf, Co: slices.Concat(a, b)}
				if !cat.May(e) {
					t.Fatalf("%+v", e)
				}
				if _, ok := cat.Order(e); ok {
					seen[outcome(e, numbers)]++
				}
			}
		}
	}
	visit(0)
	return slices.Sorted(maps.Keys(seen))
}

// agree asks that a program has the same ends on both machines, with either way of keeping order.
func agree(t *testing.T, l [][]op) int {
	t.Helper()
	want := runs(t, l)
	for _, fences := range []bool{false, true} {
		events, numbers := translated(l, fences)
		if got := executions(t, events, numbers); !slices.Equal(got, want) {
			t.Fatalf("%c fences %t: %q, not %q", l, fences, got, want)
		}
	}
	return len(want)
}

// ops are operations written as letters and locations.
func ops(s string) []op {
	var l []op
	for k := 0; k < len(s); k += 2 {
		l = append(l, op{s[k], map[byte]uint64{'x': x, 'y': y}[s[k+1]]})
	}
	return l
}

// P0.1 and P0.3 for programs of a few accesses: the executions that are allowed have the outcomes of the machine of layer 27, no others and no less.
func TestAgainstMachine(t *testing.T) {
	for _, c := range []struct {
		l []string
		n int
	}{
		{[]string{"sxly", "sylx"}, 4},
		{[]string{"sxf ly", "syf lx"}, 3},
		{[]string{"sxaxly", "syaylx"}, 5},
		{[]string{"sxsy", "lylx"}, 3},
		{[]string{"lxsy", "lysx"}, 3},
		{[]string{"sxlxly", "sylylx"}, 4},
		{[]string{"axlxly", "aylylx"}, 3},
		{[]string{"sx", "sy", "lxly", "lylx"}, 15},
		{[]string{"sx", "lxsy", "lylx"}, 7},
		{[]string{"axax", "axax"}, 6},
	} {
		var l [][]op
		for _, s := range c.l {
			l = append(l, ops(s))
		}
		if n := agree(t, l); n != c.n {
			t.Error(c.l, n)
		}
	}
	d := &dice{}
	for range 120 {
		l := make([][]op, 2+d.below(2))
		for k := range l {
			for range 1 + d.below(5-len(l)) {
				l[k] = append(l[k], op{"sssllllfa"[d.below(9)], []uint64{x, y}[d.below(2)]})
			}
		}
		agree(t, l)
	}
}
