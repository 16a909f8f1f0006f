package emit_test

import (
	"testing"

	"calque/a64"
	"calque/api"
	"calque/emit"
	"calque/ir"
	"calque/sel"
)

// dice are numbers that look as if they were thrown, always the same ones.
type dice struct{ n uint64 }

func (d *dice) word() uint64 {
	d.n = d.n*6364136223846793005 + 1442695040888963407
	x := d.n ^ d.n>>29
	return x*0x9E3779B97F4A7C15 ^ x>>31
}

func (d *dice) below(n int) int { return int(d.word() >> 33 % uint64(n)) }

// number is a word, often a small or a great one.
func (d *dice) number() uint64 {
	switch d.below(4) {
	case 0:
		return uint64(d.below(9)) - 4
	case 1:
		return 1 << d.below(64)
	}
	return d.word() >> (8 * d.below(8))
}

// maker throws code.
type maker struct {
	*dice
	ir.Maker
	values  []int // steps that produce a value
	places  []int // those that are addresses
	zeros   []int // those that are 0
	near    []uint64
	recent  int // how far back a step looks for what it uses
	harmful int // how often a step may end the code
}

// one is one of some numbers, most often one of the last.
func (m *maker) one(l []int) int {
	return l[len(l)-1-m.below(min(len(l), m.recent))]
}

// value adds a step that produces a value.
func (m *maker) value(o ir.Op) int {
	k := m.Add(o)
	m.values = append(m.values, k)
	return k
}

// pure adds a step that only works.
func (m *maker) pure() {
	o := ir.Op{Kind: 1 + m.below(6)}
	switch o.Kind {
	case ir.Const:
		o.N = m.number()
	case ir.Get, ir.Put:
		o.Kind, o.N = ir.Get, uint64(m.below(19))
	case ir.Alu:
		o.F, o.A, o.B = 1+m.below(16), m.one(m.values), m.one(m.values)
	case ir.Ext:
		o.A, o.W, o.Signed = m.one(m.values), 1<<m.below(4), m.below(2) == 0
	case ir.Sel:
		o.A, o.B, o.C = m.one(m.values), m.one(m.values), m.one(m.values)
	}
	m.value(o)
}

// place adds an address.
func (m *maker) place() {
	m.places = append(m.places, m.value(ir.Op{Kind: ir.Const, N: 1000 + uint64(m.below(90))}))
	if m.below(4) == 0 {
		m.Add(ir.Op{Kind: ir.Put, N: 3, A: m.one(m.places)})
		m.places = append(m.places, m.value(ir.Op{Kind: ir.Get, N: 3}))
	}
}

// zero adds a value that is 0.
func (m *maker) zero() {
	v := m.one(m.values)
	m.zeros = append(m.zeros, m.value(ir.Op{Kind: ir.Alu, F: []int{ir.Sub, ir.Xor, ir.LtU, ir.LtS}[m.below(4)], A: v, B: v}))
}

// test is a value, which most often is 0.
func (m *maker) test() int {
	if m.below(m.harmful) == 0 {
		return m.one(m.values)
	}
	return m.one(m.zeros)
}

// pair adds an exclusive load, steps that only work, and its store.
func (m *maker) pair() {
	at, w := m.one(m.places), 1<<m.below(4)
	m.value(ir.Op{Kind: ir.Lx, W: w, A: at})
	for range m.below(12) {
		m.pure()
	}
	m.Add(ir.Op{Kind: ir.Sx, W: w, A: at, B: m.one(m.values)})
}

// step adds any step but an exclusive one.
func (m *maker) step() {
	w := 1 << m.below(4)
	switch m.below(14) {
	case 0, 1:
		m.value(ir.Op{Kind: ir.Load, W: w, A: m.one(m.places), Ord: m.below(2)})
	case 2:
		m.Add(ir.Op{Kind: ir.Store, W: w, A: m.one(m.places), B: m.one(m.values), Ord: m.below(2)})
	case 3:
		m.Add(ir.Op{Kind: ir.Fence, F: 1 + m.below(3)})
	case 4:
		m.Add(ir.Op{Kind: ir.Trap, N: 1 + uint64(m.below(6)), A: m.test()})
	case 5:
		m.Add(ir.Op{Kind: ir.Skip, N: m.near[m.below(len(m.near))], A: m.test()})
	case 6, 7, 8:
		m.Add(ir.Op{Kind: ir.Put, N: uint64(m.below(19)), A: m.one(m.values)})
	case 9:
		m.zero()
	case 10:
		m.place()
	default:
		m.pure()
	}
}

// end adds an end.
func (m *maker) end() {
	to := func() uint64 { return m.near[m.below(len(m.near))] }
	switch kind := 1 + m.below(5); kind {
	case ir.Goto, ir.Sys:
		m.End = ir.End{Kind: kind, To: to()}
	case ir.If:
		m.End = ir.End{Kind: kind, A: m.one(append(m.values, m.zeros...)), To: to(), Else: to()}
	case ir.Jump:
		m.End = ir.End{Kind: kind, A: m.one(m.values)}
	case ir.Stop:
		m.End = ir.End{Kind: kind, A: 1 + m.below(6)}
	}
}

// code throws code at an address, ahead of a next one.
func code(d *dice, at, next uint64, most int) ir.Code {
	m := &maker{dice: d, recent: []int{3, 8, 20, 300}[d.below(4)], harmful: []int{4, 40}[d.below(2)]}
	m.At, m.Next, m.near = at, next, []uint64{next, next, at, 77}
	m.values = []int{m.Get(d.below(19))}
	m.place()
	m.zero()
	steps, pair := d.below(most), -1
	if d.below(2) == 0 {
		pair = d.below(steps + 1)
	}
	for k := range steps {
		if k == pair {
			m.pair()
		}
		m.step()
	}
	m.end()
	return m.Code
}

// some throws codes that follow one another.
func some(d *dice, most int) []ir.Code {
	var l []ir.Code
	at := uint64(100)
	for range 1 + d.below(5) {
		next := at + 1 + uint64(d.below(3))
		c := code(d, at, next, most)
		if d.below(12) == 0 {
			c.Ops, c.End = nil, ir.End{Kind: ir.Goto, To: next}
		}
		l = append(l, c)
		at = next
	}
	return l
}

// shape checks what holds of lines whatever they do: a bound for each code and few instructions, all valid; references; and jumps that lead to instructions of the same codes.
func shape(t *testing.T, codes []ir.Code, lines []emit.Line) {
	t.Helper()
	l, bounds, labels := real(lines)
	if len(bounds) != len(codes) || len(labels) > 0 || len(lines) != len(l)+len(bounds) {
		t.Fatal("bounds", len(bounds), "labels", len(labels))
	}
	n := -1
	for _, x := range lines {
		if x.Bound {
			n++
			if x != (emit.Line{Bound: true, To: codes[n].At}) {
				t.Fatalf("bound %+v", x)
			}
		}
	}
	for k, from := range append(bounds, len(l))[1:] {
		if from-bounds[k] > 12*len(codes[k].Ops)+4 {
			t.Fatal("too many:", from-bounds[k])
		}
	}
	for k, x := range l {
		one(t, l, k, x)
	}
}

// apart reports whether an instruction has to do with no cell's register, but for a move from one, or to one.
func apart(i a64.Inst) bool {
	if i.Op == a64.Orr && i.N == a64.Zr {
		return i.D >= sel.First || i.M >= sel.First
	}
	for _, r := range registers(i) {
		if r < sel.First {
			return false
		}
	}
	return true
}

// registers are the registers of an instruction that lines of codes may have.
func registers(i a64.Inst) []int {
	switch i.Op {
	case a64.B, a64.Brk, a64.Svc, a64.Dmb:
		return nil
	case a64.Movz, a64.Movn, a64.Movk, a64.Cbz, a64.Cbnz:
		return []int{i.D}
	case a64.OrrI, a64.SubsI, a64.Ubfm, a64.Sbfm, a64.Ldr, a64.Ldapr, a64.Str, a64.Stlr, a64.Ldaxr:
		return []int{i.D, i.N}
	}
	return []int{i.D, i.N, i.M}
}

// one checks one of the instructions.
func one(t *testing.T, l []emit.Line, k int, x emit.Line) {
	t.Helper()
	if !apart(x.Inst) {
		t.Fatal("a value in a cell's register, or more than one move:", show(x))
	}
	refers := func(x emit.Line) bool { return x.Ref != emit.None && x.Op != a64.B }
	switch {
	case !a64.May(x.Inst), x.Ver != 0:
		t.Fatalf("%s, version %d", show(x), x.Ver)
	case x.Ref == emit.Block:
		if !x.Jumps() || x.Off != 0 {
			t.Fatal("reference", show(x))
		}
	case x.Ref == emit.Find:
		if x.Op != a64.B || x.Off != 0 || x.To != 0 {
			t.Fatal("search", show(x))
		}
	case x.Ref != emit.None || x.To != 0:
		t.Fatal("no reference", show(x), x.Ref, x.To)
	case x.Jumps():
		to := k + int(x.Off/4)
		if to < 0 || to >= len(l) {
			t.Fatal("beyond", show(x))
		}
		for n := min(k+1, to); n < max(k, to); n++ {
			if refers(l[n]) {
				t.Fatal(show(x), "crosses", show(l[n]))
			}
		}
		back := x.Op == a64.Cbnz && l[k-1].Op == a64.Stlxr
		if back && l[to].Op != a64.Ldaxr || (x.Off < 0) != back {
			t.Fatal(show(x), "leads to", show(l[to]))
		}
	}
}

// P24.1, P24.4: lines of thrown codes do what the codes do.
func TestCodesReading(t *testing.T) {
	d := &dice{1}
	ends := map[string]int{}
	kept, most := 0, 0
	for round := range 1600 {
		codes := some(d, []int{5, 20, 60, 180}[round%4])
		for _, c := range codes {
			if !ir.May(c) {
				t.Fatal("code that is not valid", c)
			}
		}
		lines, e := emit.Codes(codes...)
		if e != api.OK {
			t.Fatal(e)
		}
		shape(t, codes, lines)
		for range 3 {
			var s ir.State
			for k := range s.Cell {
				s.Cell[k] = d.number()
			}
			check(t, d, codes, lines, s, ends)
		}
		for _, l := range lines {
			if l.Op == a64.Str && l.N == sel.Spill {
				kept++
				most = max(most, int(l.Imm))
			}
		}
	}
	for what, n := range ends {
		if n < 100 {
			t.Error("too few:", what, n)
		}
	}
	if len(ends) != 5 || kept < 1000 || most < 1000 {
		t.Error("too few", ends, kept, most)
	}
}
