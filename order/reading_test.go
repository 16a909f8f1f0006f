package order_test

import (
	"slices"
	"testing"

	"calque/api"
	"calque/ir"
	"calque/lift"
	"calque/mem"
	"calque/order"
	"calque/span"
	"calque/xinst"
)

// dice are numbers that look as if they were thrown, always the same ones.
type dice struct{ n uint64 }

func (d *dice) below(n int) int {
	d.n = d.n*6364136223846793005 + 1442695040888963407
	return int(d.n >> 33 % uint64(n))
}

// thrown is a step that uses some of those before it.
func (d *dice) thrown(c ir.Code) ir.Op {
	use := func() int {
		for {
			if n := d.below(len(c.Ops)); c.Ops[n].Makes() {
				return n
			}
		}
	}
	w := 1 << d.below(4)
	switch d.below(16) {
	case 0:
		return ir.Op{Kind: ir.Const, N: uint64(60 + d.below(70))}
	case 1:
		return ir.Op{Kind: ir.Get, N: uint64(d.below(ir.Cells))}
	case 2:
		return ir.Op{Kind: ir.Put, N: uint64(d.below(ir.Cells)), A: use()}
	case 3:
		return ir.Op{Kind: ir.Alu, F: 1 + d.below(16), A: use(), B: use()}
	case 4:
		return ir.Op{Kind: ir.Ext, W: w, A: use(), Signed: d.below(2) == 0}
	case 5:
		return ir.Op{Kind: ir.Sel, A: use(), B: use(), C: use()}
	case 6:
		return ir.Op{Kind: ir.Fence, F: 1 + d.below(3)}
	case 7:
		return ir.Op{Kind: ir.Trap, N: uint64(1 + d.below(6)), A: d.below(2)}
	case 8:
		return ir.Op{Kind: ir.Skip, N: c.Next, A: d.below(2)}
	case 9, 10, 11:
		return ir.Op{Kind: ir.Load, W: w, A: max(use(), 1), Ord: d.below(2)}
	}
	return ir.Op{Kind: ir.Store, W: w, A: 1, B: use(), Ord: d.below(2)}
}

// code is code of some steps at an address, that mostly continues at the next one. Its first value is mostly 0, its second one an address of memory.
func (d *dice) code(at uint64) ir.Code {
	c := ir.Code{At: at, Next: at + 1, Ops: []ir.Op{{Kind: ir.Const, N: uint64(1 - min(1, d.below(8)))}, {Kind: ir.Const, N: uint64(62 + d.below(64))}}}
	for range d.below(16) {
		c.Ops = append(c.Ops, d.thrown(c))
	}
	if d.below(3) == 0 {
		w, n := 1<<d.below(4), len(c.Ops)
		c.Ops = append(c.Ops, ir.Op{Kind: ir.Lx, W: w, A: 1}, ir.Op{Kind: ir.Alu, F: ir.Add, A: n, B: 1}, ir.Op{Kind: ir.Sx, W: w, A: 1, B: n + 1}, d.thrown(c))
	}
	c.End = ir.End{Kind: ir.Goto, To: at + 1}
	last := len(c.Ops) - 1
	for !c.Ops[last].Makes() {
		last--
	}
	switch d.below(8) {
	case 0:
		c.End = ir.End{Kind: ir.If, A: last, To: at + 1, Else: at + 1}
	case 1:
		c.End = ir.End{Kind: ir.Jump, A: last}
	case 2:
		c.End = ir.End{Kind: ir.Sys, To: at + 1}
	case 3:
		c.End = ir.End{Kind: ir.Stop, A: 1 + d.below(6)}
	}
	return c
}

// row are codes of which each mostly continues at the next one, all of them with room for fences.
func (d *dice) row() []ir.Code {
	var l []ir.Code
	for k := range d.below(6) {
		l = append(l, d.code(uint64(1000+k)))
	}
	return l
}

// some are places of some of the accesses of codes, and of some steps that are none.
func (d *dice) some(l []ir.Code) []span.Access {
	var private []span.Access
	for k, c := range l {
		for n := range c.Ops {
			if d.below(2) == 0 {
				private = append(private, span.Access{Code: k, Op: n, Off: int64(d.below(9)), W: d.below(9)})
			}
		}
	}
	return private
}

// accesses reports whether a step is a Load or a Store.
func accesses(o ir.Op) bool { return o.Kind == ir.Load || o.Kind == ir.Store }

// contains reports whether a place is among those that are private.
func contains(private []span.Access, k, n int) bool {
	return slices.ContainsFunc(private, func(a span.Access) bool { return a.Code == k && a.Op == n })
}

// inserted is code with a fence as step n.
func inserted(c ir.Code, n, f int) ir.Code {
	later := func(p *int) {
		if *p >= n {
			*p++
		}
	}
	c.Ops = slices.Insert(slices.Clone(c.Ops), n, ir.Op{Kind: ir.Fence, F: f})
	for k := range c.Ops {
		o := &c.Ops[k]
		for m, p := range []*int{&o.A, &o.B, &o.C} {
			if m < len(o.Uses()) {
				later(p)
			}
		}
	}
	if c.Kind == ir.If || c.Kind == ir.Jump {
		later(&c.A)
	}
	return c
}

// marked is a second reading of Mark, for codes that are valid and have room: fences are put in one after the other, from the last step on.
func marked(way int, private []span.Access, l []ir.Code) []ir.Code {
	l = slices.Clone(l)
	for k := range l {
		for n := len(l[k].Ops) - 1; n >= 0; n-- {
			o := l[k].Ops[n]
			if !accesses(o) {
				continue
			}
			shared := !contains(private, k, n)
			l[k].Ops = slices.Clone(l[k].Ops)
			l[k].Ops[n].Ord = 0
			switch {
			case shared && way == 0:
				l[k].Ops[n].Ord = 1
			case shared && o.Kind == ir.Load:
				l[k] = inserted(l[k], n+1, 2)
			case shared && o.Kind == ir.Store:
				l[k] = inserted(l[k], n, 3)
			}
		}
	}
	return l
}

// memory has an area that can be written, and one that can't; a store waits in the buffer.
func memory() *mem.Mem {
	m := mem.New(mem.Area{Lo: 64, Data: []byte{63: 1}, Write: true}, mem.Area{Lo: 160, Data: []byte{1, 2, 3, 4, 5, 6, 7, 8}})
	m.Store(0, 70, 8, 0x1122334455667788)
	return m
}

// like reports whether memories are the same, now and at each moment while their buffers are drained.
func like(m, n *mem.Mem) bool {
	m, n = m.Copy(), n.Copy()
	for m.Pending(0) == n.Pending(0) && m.Drain(0) {
		if n.Drain(0); !m.Same(n) {
			return false
		}
	}
	return m.Pending(0) == n.Pending(0) && m.Same(n)
}

// effects holds what marked codes do against what the codes do (P17.3). It returns how many were executed to their ends.
func (d *dice) effects(t *testing.T, l, got []ir.Code) int {
	t.Helper()
	var s ir.State
	for k := range s.Cell {
		s.Cell[k] = uint64(d.below(140))
	}
	s2, m := s, memory()
	m2 := m.Copy()
	for k, c := range l {
		how, to := ir.Run(c, &s, 0, m)
		how2, to2 := ir.Run(got[k], &s2, 0, m2)
		if how != how2 || to != to2 || s != s2 || !like(m, m2) {
			t.Fatalf("%q does not do what %q does", ir.Show(got[k]), ir.Show(c))
		}
		if how != api.Runs || to != c.Next {
			return k
		}
	}
	return len(l)
}

// apart tells of two accesses between which there is no fence, though the way Fences has one there (P17.4). It returns how many there are with one.
func apart(t *testing.T, private []span.Access, l, got []ir.Code) int {
	t.Helper()
	var alone []bool // of each Load and Store
	for k, c := range l {
		for n, o := range c.Ops {
			if accesses(o) {
				alone = append(alone, contains(private, k, n))
			}
		}
	}
	type flat struct {
		ir.Op
		alone bool
	}
	var all []flat
	for _, c := range got {
		for _, o := range c.Ops {
			x := flat{o, false}
			if accesses(o) {
				x.alone, alone = alone[0], alone[1:]
			}
			all = append(all, x)
		}
	}
	count := 0
	for i, x := range all {
		var between [4]bool // the fences
		for _, y := range all[i+1:] {
			if y.Kind == ir.Fence {
				between[y.F] = true
			}
			loaded := x.Kind == ir.Load && !x.alone && (accesses(y.Op) || y.Kind == ir.Lx || y.Kind == ir.Sx)
			stored := x.Kind == ir.Store && y.Kind == ir.Store && !y.alone
			if loaded && !between[1] && !between[2] || stored && !between[1] && !between[3] {
				t.Fatalf("%v %+v: no fence behind step %d", private, got, i)
			}
			if loaded || stored {
				count++
			}
		}
	}
	return count
}

// holds holds marked codes against the codes.
func (d *dice) holds(t *testing.T, private []span.Access, l []ir.Code) (int, int) {
	t.Helper()
	var done, pairs int
	for way := range 2 {
		got := order.Mark(way, private, l...)
		if want := marked(way, private, l); !slices.EqualFunc(got, want, same) {
			t.Fatalf("%d %v %+v: %+v, not %+v", way, private, l, got, want)
		}
		done += d.effects(t, l, got)
		if way == order.Fences {
			pairs = apart(t, private, l, got)
		}
	}
	return done, pairs
}

// P17.1, P17.3, P17.4: many codes.
func TestMany(t *testing.T) {
	d := &dice{1}
	done, pairs := 0, 0
	for range 8000 {
		l := d.row()
		if slices.ContainsFunc(l, func(c ir.Code) bool { return !ir.May(c) }) {
			t.Fatalf("not valid: %+v", l)
		}
		n, m := d.holds(t, d.some(l), l)
		done, pairs = done+n, pairs+m
	}
	if done < 8000 || pairs < 50000 {
		t.Error("few codes executed, or few accesses", done, pairs)
	}
}

// inst is an instruction that does not leave its block, often one of the stack.
func (d *dice) inst() xinst.Inst {
	opd := func() xinst.Opd {
		return []xinst.Opd{{}, xinst.I(), xinst.R(d.below(16)), xinst.M(4, xinst.No, 1, int64(d.below(40)-20)), xinst.M(xinst.No, xinst.No, 1, int64(64+d.below(60)))}[d.below(5)]
	}
	for {
		i := xinst.Inst{Op: 1 + d.below(xinst.Ud), W: 1 << d.below(4), A: opd(), B: opd(), Lock: d.below(4) == 0, Len: 1}
		if i.B.Kind == xinst.Imm {
			i.Imm = int64(d.below(100))
		}
		if xinst.May(i) && !i.Ends() {
			return i
		}
	}
}

// P17.1 to P17.4: codes of many instructions, with their private accesses.
func TestManyLifted(t *testing.T) {
	d := &dice{2}
	done, pairs, private := 0, 0, 0
	for range 4000 {
		var l []xinst.Inst
		for range d.below(9) {
			l = append(l, d.inst())
		}
		codes, e := lift.All(1000, l...)
		if e != api.OK {
			t.Fatal(e)
		}
		alone, s, some := order.Private(codes...)
		found := span.Find(codes...)
		if reach, ok := span.Over(found...); s != reach || some != ok || !slices.Equal(alone, found) {
			t.Fatalf("%+v: %v %v %v", l, alone, s, some)
		}
		n, m := d.holds(t, alone, codes)
		d.holds(t, nil, codes)
		done, pairs, private = done+n, pairs+m, private+len(alone)
	}
	if done < 4000 || pairs < 4000 || private < 4000 {
		t.Error("few codes executed, or few accesses", done, pairs, private)
	}
}
