package span_test

import (
	"math/big"
	"slices"
	"testing"

	"calque/api"
	"calque/ir"
	"calque/lift"
	"calque/mem"
	"calque/span"
	"calque/xinst"
)

// dice are numbers that look as if they were thrown, always the same ones.
type dice struct{ n uint64 }

func (d *dice) word() uint64 {
	d.n = d.n*6364136223846793005 + 1442695040888963407
	x := d.n ^ d.n>>29
	return x*0x9E3779B97F4A7C15 ^ x>>31
}

func (d *dice) below(n int) int { return int(d.word() >> 33 % uint64(n)) }

// number is a small one, one near the ends of offsets, or any word.
func (d *dice) number() uint64 {
	switch d.below(4) {
	case 0:
		return uint64([]int64{far, -far}[d.below(2)]) + uint64(d.below(20)) - 10
	case 1:
		return d.word() >> d.below(64)
	}
	return uint64(d.below(64)) - 32
}

// code is code of sums and differences, of accesses and of words put in cell 4.
func (d *dice) code(at uint64) ir.Code {
	m := newMaker()
	m.At, m.Next, m.End.To = at, at+1, at+1
	made := []int{m.Get(4), m.Const(d.number())}
	use := func() int { return made[max(d.below(len(made)), d.below(len(made)))] }
	for range d.below(20) {
		w := 1 << d.below(4)
		switch d.below(12) {
		case 0:
			made = append(made, m.Const(d.number()))
		case 1:
			made = append(made, m.Get([]int{4, 4, 4, 5}[d.below(4)]))
		case 2, 3, 4:
			made = append(made, m.add(use(), use()))
		case 5, 6:
			made = append(made, m.sub(use(), use()))
		case 7:
			made = append(made, m.Ext(use(), []int{8, 8, 8, w}[d.below(4)], d.below(2) == 0))
		case 8:
			if d.below(3) == 0 {
				made = append(made, m.Alu(1+d.below(16), use(), use()), m.Sel(use(), use(), use()))
			}
		case 9:
			m.Put([]int{4, 4, 4, 5}[d.below(4)], use())
		case 10:
			made = append(made, m.Add(ir.Op{Kind: ir.Load, W: w, A: use(), Ord: d.below(2)}))
		case 11:
			m.Add(ir.Op{Kind: ir.Store, W: w, A: use(), B: use(), Ord: d.below(2)})
		}
	}
	return m.Code
}

// term is what is known: times sp and a number without bounds, or nothing.
type term struct {
	times int
	n     *big.Int
}

// signed is a number of 64 bits that counts as signed.
func signed(n *big.Int) *big.Int {
	return big.NewInt(int64(new(big.Int).And(n, new(big.Int).SetUint64(all)).Uint64()))
}

// found is a second reading of what Find tells, with numbers that have no bounds.
func found(l []ir.Code) []span.Access {
	var out []span.Access
	cell := &term{1, new(big.Int)}
	for k, c := range l {
		steps := map[int]*term{} // those of which something is known
		for n, o := range c.Ops {
			a, b := steps[o.A], steps[o.B]
			switch {
			case o.Kind == ir.Const:
				steps[n] = &term{0, signed(new(big.Int).SetUint64(o.N))}
			case o.Kind == ir.Get && o.N == 4:
				steps[n] = cell
			case o.Kind == ir.Put && o.N == 4:
				cell = a
			case o.Kind == ir.Ext && o.W == 8:
				steps[n] = a
			case o.Kind == ir.Alu && a != nil && b != nil && (o.F == ir.Add && a.times+b.times < 2 || o.F == ir.Sub && b.times == 0):
				x := &term{a.times + b.times, new(big.Int).Add(a.n, b.n)}
				if o.F == ir.Sub {
					x.n.Sub(a.n, b.n)
				}
				if x.times == 0 {
					x.n = signed(x.n)
				}
				if x.times == 0 || x.n.CmpAbs(big.NewInt(far)) <= 0 {
					steps[n] = x
				}
			case (o.Kind == ir.Load || o.Kind == ir.Store) && a != nil && a.times == 1:
				out = append(out, span.Access{Code: k, Op: n, Off: a.n.Int64(), W: o.W})
			}
		}
	}
	return out
}

// reach executes codes one after the other up to an access, and returns its address.
func reach(l []ir.Code, a span.Access, s ir.State, m *mem.Mem) (uint64, bool) {
	m = m.Copy()
	for k, c := range l[:a.Code] {
		if how, to := ir.Run(c, &s, 0, m); how != api.Runs || to != l[k+1].At {
			return 0, false
		}
	}
	c := l[a.Code]
	at := c.Ops[a.Op].A
	c.Ops, c.End = slices.Clone(c.Ops[:a.Op]), ir.End{Kind: ir.Jump, A: at}
	how, to := ir.Run(c, &s, 0, m)
	return to, how == api.Runs
}

// follows holds the addresses of accesses against the offsets (P16.3), and against a stack (P16.4). It returns how many accesses were reached, and how many times all were in the stack.
func (d *dice) follows(t *testing.T, l []ir.Code, got []span.Access) (int, int) {
	t.Helper()
	const lo, size = 1000, 128
	reached, stacked := 0, 0
	m := mem.New(mem.Area{Lo: lo, Data: make([]byte, size), Write: true}, mem.Area{Data: make([]byte, 64), Write: true})
	s := ir.State{}
	for k := range s.Cell {
		s.Cell[k] = lo + uint64(d.below(size))
	}
	over, some := span.Over(got...)
	within := over.Within(s.Cell[4], lo, size)
	for _, a := range got {
		if at, ok := reach(l, a, s, m); ok {
			reached++
			if at != s.Cell[4]+uint64(a.Off) {
				t.Fatalf("%+v is at %d, sp is %d", a, at, s.Cell[4])
			}
			if within && !m.May(0, at, a.W, true) {
				t.Fatalf("%+v at %d is not in the stack", a, at)
			}
		}
	}
	if some && within {
		stacked++
	}
	return reached, stacked
}

// P16.1, P16.3, P16.4: many codes.
func TestMany(t *testing.T) {
	d := &dice{1}
	count, reached, stacked := 0, 0, 0
	for range 20000 {
		var l []ir.Code
		for k := range 1 + d.below(5) {
			l = append(l, d.code(uint64(k)))
		}
		got := span.Find(l...)
		if !slices.Equal(got, found(l)) {
			t.Fatalf("%+v: %+v, not %+v", l, got, found(l))
		}
		n, in := d.follows(t, l, got)
		count, reached, stacked = count+len(got), reached+n, stacked+in
	}
	if count < 5000 || reached < 2000 || stacked < 500 {
		t.Error("few accesses", count, reached, stacked)
	}
}

// inst is an instruction that has to do with the stack, or with any register.
func (d *dice) inst() xinst.Inst {
	reg := xinst.R([]int{0, 1, 4, 5}[d.below(4)])
	to := xinst.M([]int{4, 4, 5}[d.below(3)], -1, 1, int64(8*d.below(10)-16))
	for {
		i := xinst.Inst{W: 1 << d.below(4), Len: 1}
		i.Op = []int{xinst.Push, xinst.Pop, xinst.Mov, xinst.Add, xinst.Sub, xinst.Lea, xinst.Xchg, xinst.Cmp, xinst.Nop}[d.below(9)]
		i.A, i.B = []xinst.Opd{reg, to, xinst.I(), {}}[d.below(4)], []xinst.Opd{reg, to, xinst.I(), {}}[d.below(4)]
		if i.A == xinst.I() || i.B == xinst.I() {
			i.Imm = int64(8*d.below(8) - 24)
		}
		if xinst.May(i) {
			return i
		}
	}
}

// P16.1, P16.3, P16.4: codes of many instructions.
func TestManyLifted(t *testing.T) {
	d := &dice{2}
	count, reached, stacked := 0, 0, 0
	for range 10000 {
		var l []xinst.Inst
		for range 1 + d.below(12) {
			l = append(l, d.inst())
		}
		codes, e := lift.All(0, l...)
		if e != api.OK {
			t.Fatal(e)
		}
		got := span.Find(codes...)
		if !slices.Equal(got, found(codes)) {
			t.Fatalf("%+v: %+v, not %+v", l, got, found(codes))
		}
		n, in := d.follows(t, codes, got)
		count, reached, stacked = count+len(got), reached+n, stacked+in
	}
	if count < 20000 || reached < 10000 || stacked < 1000 {
		t.Error("few accesses", count, reached, stacked)
	}
}
