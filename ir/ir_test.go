package ir_test

import (
	"math"
	"math/big"
	"slices"
	"strings"
	"testing"

	"calque/api"
	"calque/ir"
	"calque/mem"
)

// dice are numbers that look as if they were thrown, always the same ones.
type dice struct{ n uint64 }

func (d *dice) word() uint64 {
	d.n = d.n*6364136223846793005 + 1442695040888963407
	x := d.n ^ d.n>>29
	return x*0x9E3779B97F4A7C15 ^ x>>31
}

func (d *dice) below(n int) int { return int(d.word() >> 33 % uint64(n)) }

// number is a word, often a small or a great one.
func (d *dice) number() uint64 {
	switch d.below(4) {
	case 0:
		return uint64(d.below(5)) - 2
	case 1:
		return 1<<(8*widths[d.below(4)]-1) + uint64(d.below(3)) - 1
	}
	return d.word() >> (8 * d.below(8))
}

const all = math.MaxUint64

var (
	widths   = []int{1, 2, 4, 8}
	extremes = []int{math.MinInt, -250, -2, -1, 0, 1, 2, 3, 4, 5, 6, 7, 8, 16, 17, 18, 19, 250, math.MaxInt}
)

// The kinds, functions, cells, fences, orders and ends in the order in which the document lists them.
func TestNumbers(t *testing.T) {
	for _, l := range [][]int{
		{1, ir.Const, ir.Get, ir.Put, ir.Alu, ir.Ext, ir.Sel, ir.Load, ir.Store, ir.Lx, ir.Sx, ir.Fence, ir.Trap, ir.Skip},
		{1, ir.Add, ir.Sub, ir.And, ir.Or, ir.Xor, ir.Mul, ir.MulU, ir.MulS, ir.DivU, ir.DivS, ir.Shl, ir.Shr, ir.Sar, ir.Eq, ir.LtU, ir.LtS},
		{16, ir.C, ir.O, ir.Res, ir.Cells},
		{1, ir.Full, ir.Loads, ir.Stores},
		{0, ir.Plain, ir.Strong},
		{1, ir.Goto, ir.If, ir.Jump, ir.Sys, ir.Stop},
		{250, ir.Most},
	} {
		for k, n := range l[1:] {
			if n != l[0]+k {
				t.Error(l, k, n)
			}
		}
	}
	if n := len(ir.State{}.Cell); n != 19 {
		t.Error("cells", n)
	}
}

// P13.1: what a step uses and makes hangs on its kind alone.
func TestShapes(t *testing.T) {
	shapes := map[int]struct {
		uses        int
		makes, pure bool
	}{
		ir.Const: {0, true, true}, ir.Get: {0, true, true}, ir.Put: {1, false, false},
		ir.Alu: {2, true, true}, ir.Ext: {1, true, true}, ir.Sel: {3, true, true},
		ir.Load: {1, true, false}, ir.Store: {2, false, false}, ir.Lx: {1, true, false}, ir.Sx: {2, false, false},
		ir.Fence: {0, false, false}, ir.Trap: {1, false, false}, ir.Skip: {1, false, false},
	}
	for _, kind := range append([]int{9, 10, 11, 12, 13, 14, 15}, extremes...) {
		want := shapes[kind]
		for _, o := range []ir.Op{{Kind: kind, A: 7, B: -8, C: 9}, {Kind: kind, A: 7, B: -8, C: 9, F: 99, W: -3, N: all, Signed: true, Ord: 5}} {
			if l := o.Uses(); !slices.Equal(l, []int{7, -8, 9}[:want.uses]) {
				t.Error("uses", kind, l)
			}
			if o.Makes() != want.makes || o.Pure() != want.pure {
				t.Error("kind", kind, o.Makes(), o.Pure())
			}
		}
	}
	// The list is the caller's.
	o := ir.Op{Kind: ir.Put, A: 1, B: 2, C: 3}
	l := append(o.Uses(), 8)
	l[0] = 9
	if got := o.Uses(); len(got) != 1 || got[0] != 1 || o.B != 2 {
		t.Error("uses share", got, o)
	}
}

// code is steps with an end that goes to 9.
func code(ops ...ir.Op) ir.Code {
	return ir.Code{At: 5, Next: 9, Ops: ops, End: ir.End{Kind: ir.Goto, To: 9}}
}

// values are three steps that produce values, one that produces none, and then some more.
func values(ops ...ir.Op) ir.Code {
	return code(append([]ir.Op{{Kind: ir.Const, N: 5}, {Kind: ir.Get, N: 3}, {Kind: ir.Const}, {Kind: ir.Fence, F: 2}}, ops...)...)
}

// samples is a valid step of each kind, behind values.
func samples() []ir.Op {
	return []ir.Op{
		{Kind: ir.Const, N: all}, {Kind: ir.Get, N: 18}, {Kind: ir.Put, N: 17, A: 1}, {Kind: ir.Alu, F: ir.LtS, A: 0, B: 2},
		{Kind: ir.Ext, W: 4, A: 1}, {Kind: ir.Ext, W: 8, A: 1, Signed: true}, {Kind: ir.Sel, A: 2, B: 1, C: 2},
		{Kind: ir.Load, W: 2, A: 2}, {Kind: ir.Load, W: 2, A: 2, Ord: 1}, {Kind: ir.Store, W: 1, A: 1, B: 2}, {Kind: ir.Store, W: 1, A: 1, B: 2, Ord: 1},
		{Kind: ir.Fence, F: 3}, {Kind: ir.Trap, N: 6, A: 1}, {Kind: ir.Skip, N: all, A: 1},
	}
}

// P13.1: the fields of each kind, and each field of each kind with what may not be.
func TestMayFields(t *testing.T) {
	for _, o := range samples() {
		if !ir.May(values(o)) {
			t.Errorf("%+v is valid", o)
		}
		for _, n := range extremes {
			for field, p := range []ir.Op{
				{Kind: n, F: o.F, W: o.W, A: o.A, B: o.B, C: o.C, N: o.N, Signed: o.Signed, Ord: o.Ord},
				{Kind: o.Kind, F: n, W: o.W, A: o.A, B: o.B, C: o.C, N: o.N, Signed: o.Signed, Ord: o.Ord},
				{Kind: o.Kind, F: o.F, W: n, A: o.A, B: o.B, C: o.C, N: o.N, Signed: o.Signed, Ord: o.Ord},
				{Kind: o.Kind, F: o.F, W: o.W, A: n, B: o.B, C: o.C, N: o.N, Signed: o.Signed, Ord: o.Ord},
				{Kind: o.Kind, F: o.F, W: o.W, A: o.A, B: n, C: o.C, N: o.N, Signed: o.Signed, Ord: o.Ord},
				{Kind: o.Kind, F: o.F, W: o.W, A: o.A, B: o.B, C: n, N: o.N, Signed: o.Signed, Ord: o.Ord},
				{Kind: o.Kind, F: o.F, W: o.W, A: o.A, B: o.B, C: o.C, N: uint64(n), Signed: o.Signed, Ord: o.Ord},
				{Kind: o.Kind, F: o.F, W: o.W, A: o.A, B: o.B, C: o.C, N: o.N, Signed: !o.Signed, Ord: o.Ord},
				{Kind: o.Kind, F: o.F, W: o.W, A: o.A, B: o.B, C: o.C, N: o.N, Signed: o.Signed, Ord: n},
			} {
				if got, want := ir.May(values(p)), valid(values(p)); got != want {
					t.Errorf("field %d of %+v: %v", field, p, got)
				}
			}
		}
	}
}

// P13.1: numbers of cells, faults, functions and fences at their ends.
func TestMayEnds(t *testing.T) {
	for _, x := range []struct {
		o    ir.Op
		want bool
	}{
		{ir.Op{Kind: ir.Get, N: 0}, true}, {ir.Op{Kind: ir.Get, N: 18}, true}, {ir.Op{Kind: ir.Get, N: 19}, false}, {ir.Op{Kind: ir.Get, N: 1 << 32}, false},
		{ir.Op{Kind: ir.Put, N: 18}, true}, {ir.Op{Kind: ir.Put, N: 19}, false}, {ir.Op{Kind: ir.Put, N: all}, false},
		{ir.Op{Kind: ir.Trap, N: 0}, false}, {ir.Op{Kind: ir.Trap, N: 1}, true}, {ir.Op{Kind: ir.Trap, N: 6}, true}, {ir.Op{Kind: ir.Trap, N: 7}, false},
		{ir.Op{Kind: ir.Skip, N: all}, true}, {ir.Op{Kind: ir.Skip}, true},
		{ir.Op{Kind: ir.Alu, F: 0}, false}, {ir.Op{Kind: ir.Alu, F: 1}, true}, {ir.Op{Kind: ir.Alu, F: 16}, true}, {ir.Op{Kind: ir.Alu, F: 17}, false},
		{ir.Op{Kind: ir.Fence, F: 0}, false}, {ir.Op{Kind: ir.Fence, F: 1}, true}, {ir.Op{Kind: ir.Fence, F: 3}, true}, {ir.Op{Kind: ir.Fence, F: 4}, false},
		{ir.Op{Kind: ir.Ext}, false}, {ir.Op{Kind: ir.Ext, W: 3}, false}, {ir.Op{Kind: ir.Ext, W: 16}, false}, {ir.Op{Kind: ir.Alu, F: 1, W: 8}, false},
		{ir.Op{Kind: ir.Load, W: 8, Ord: 2}, false}, {ir.Op{Kind: ir.Load, W: 8, Ord: -1}, false}, {ir.Op{Kind: ir.Fence, F: 1, Ord: 1}, false},
		{ir.Op{Kind: ir.Load, W: 8, Signed: true}, false}, {ir.Op{}, false}, {ir.Op{Kind: 14}, false},
		// Steps that are none, that are not there yet, or that produce nothing:
		{ir.Op{Kind: ir.Put, A: 3}, false}, {ir.Op{Kind: ir.Put, A: 4}, false}, {ir.Op{Kind: ir.Put, A: 5}, false}, {ir.Op{Kind: ir.Put, A: -1}, false},
		{ir.Op{Kind: ir.Alu, F: 1, B: 3}, false}, {ir.Op{Kind: ir.Sel, C: 3}, false}, {ir.Op{Kind: ir.Sel, C: 2}, true},
		// What is not used:
		{ir.Op{Kind: ir.Const, A: 1}, false}, {ir.Op{Kind: ir.Put, B: 1}, false}, {ir.Op{Kind: ir.Alu, F: 1, C: 1}, false}, {ir.Op{Kind: ir.Fence, F: 1, A: 1}, false},
	} {
		if got := ir.May(values(x.o)); got != x.want {
			t.Errorf("%+v: %v", x.o, got)
		}
	}
}

// P13.1: at most 250 steps.
func TestMayMost(t *testing.T) {
	var l []ir.Op
	for n := range 252 {
		if got := ir.May(code(l...)); got != (n <= 250) {
			t.Error(n, "steps:", got)
		}
		l = append(l, ir.Op{Kind: ir.Get, N: 4})
	}
	if !ir.May(ir.Code{End: ir.End{Kind: ir.Goto}}) || ir.May(ir.Code{}) {
		t.Error("no steps")
	}
}

// P13.1: one Lx and one Sx, of the same place and width, with pure steps in between.
func TestMayExclusive(t *testing.T) {
	lx, sx := ir.Op{Kind: ir.Lx, W: 4, A: 1}, ir.Op{Kind: ir.Sx, W: 4, A: 1, B: 4}
	pure := []ir.Op{{Kind: ir.Const}, {Kind: ir.Get}, {Kind: ir.Alu, F: 2, A: 4, B: 4}, {Kind: ir.Ext, W: 1}, {Kind: ir.Sel}}
	for _, x := range []struct {
		what string
		l    []ir.Op
		want bool
	}{
		{"both", []ir.Op{lx, sx}, true},
		{"an Lx alone", []ir.Op{lx}, false},
		{"an Sx alone", []ir.Op{{Kind: ir.Sx, W: 4, A: 1}}, false},
		{"the wrong way round", []ir.Op{{Kind: ir.Sx, W: 4, A: 1}, lx}, false},
		{"two", []ir.Op{lx, sx, lx, sx}, false},
		{"two Lx", []ir.Op{lx, lx, sx}, false},
		{"two Sx", []ir.Op{lx, sx, sx}, false},
		{"an Lx behind", []ir.Op{lx, sx, lx}, false},
		{"another place", []ir.Op{lx, {Kind: ir.Sx, W: 4, A: 0, B: 4}}, false},
		{"another width", []ir.Op{lx, {Kind: ir.Sx, W: 8, A: 1, B: 4}}, false},
		{"pure ones between", append(append([]ir.Op{lx}, pure...), sx), true},
		{"others around", []ir.Op{{Kind: ir.Load, W: 8}, {Kind: ir.Lx, W: 4, A: 1}, {Kind: ir.Sx, W: 4, A: 1, B: 5}, {Kind: ir.Store, W: 1}, {Kind: ir.Load, W: 1}}, true},
		{"a strong one", []ir.Op{lx, {Kind: ir.Sx, W: 4, A: 1, B: 4, Ord: 1}}, false},
		{"a strong Lx", []ir.Op{{Kind: ir.Lx, W: 4, A: 1, Ord: 1}, sx}, false},
	} {
		if got := ir.May(values(x.l...)); got != x.want {
			t.Errorf("%s: %v", x.what, got)
		}
	}
	for _, o := range samples() {
		if got := ir.May(values(lx, o, sx)); got != o.Pure() {
			t.Errorf("between: %+v: %v", o, got)
		}
	}
}

// P13.1: ends.
func TestMayEnd(t *testing.T) {
	for _, x := range []struct {
		e    ir.End
		want bool
	}{
		{ir.End{Kind: ir.Goto, To: all}, true}, {ir.End{Kind: ir.Goto}, true}, {ir.End{Kind: ir.Goto, A: 1}, false}, {ir.End{Kind: ir.Goto, Else: 1}, false},
		{ir.End{Kind: ir.If, A: 1, To: 5, Else: 6}, true}, {ir.End{Kind: ir.If}, true}, {ir.End{Kind: ir.If, A: 3}, false}, {ir.End{Kind: ir.If, A: 4}, false}, {ir.End{Kind: ir.If, A: -1}, false},
		{ir.End{Kind: ir.Jump, A: 2}, true}, {ir.End{Kind: ir.Jump, A: 3}, false}, {ir.End{Kind: ir.Jump, To: 1}, false}, {ir.End{Kind: ir.Jump, Else: 1}, false},
		{ir.End{Kind: ir.Sys, To: 7}, true}, {ir.End{Kind: ir.Sys, A: 1}, false}, {ir.End{Kind: ir.Sys, Else: 7}, false},
		{ir.End{Kind: ir.Stop, A: 1}, true}, {ir.End{Kind: ir.Stop, A: 6}, true}, {ir.End{Kind: ir.Stop}, false}, {ir.End{Kind: ir.Stop, A: 7}, false},
		{ir.End{Kind: ir.Stop, A: 1, To: 1}, false}, {ir.End{Kind: ir.Stop, A: 1, Else: 1}, false}, {ir.End{Kind: ir.Stop, A: -1}, false},
		{ir.End{}, false}, {ir.End{Kind: 6}, false}, {ir.End{Kind: -1}, false}, {ir.End{Kind: math.MaxInt, A: math.MinInt}, false},
	} {
		c := values()
		c.End = x.e
		if got := ir.May(c); got != x.want {
			t.Errorf("%+v: %v", x.e, got)
		}
	}
	if ir.May(ir.Code{End: ir.End{Kind: ir.If}}) || ir.May(ir.Code{End: ir.End{Kind: ir.Jump}}) {
		t.Error("an end that uses a step that there is not")
	}
}

// P13.1: the text of each kind of step, and of each function.
func TestShow(t *testing.T) {
	l := append(samples(), ir.Op{Kind: ir.Ext, W: 1, A: 4, Signed: true}, ir.Op{Kind: ir.Lx, W: 8, A: 9}, ir.Op{Kind: ir.Sx, W: 8, A: 9, B: 19}, ir.Op{Kind: ir.Fence, F: 1})
	want := []string{"v0 = const 5", "v1 = get 3", "v2 = const 0", "fence 2",
		"v4 = const 18446744073709551615", "v5 = get 18", "put 17 v1", "v7 = lts v0 v2", "v8 = ext.4 v1", "v9 = ext.8s v1", "v10 = sel v2 v1 v2",
		"v11 = load.2 v2", "v12 = load.2 v2 !", "store.1 v1 v2", "store.1 v1 v2 !", "fence 3", "trap 6 v1", "skip 18446744073709551615 v1",
		"v18 = ext.1s v4", "v19 = lx.8 v9", "sx.8 v9 v19", "fence 1"}
	if got := ir.Show(values(l...)); !slices.Equal(got, want) {
		t.Errorf("%q", got)
	}
	for k, word := range strings.Fields("add sub and or xor mul mulu muls divu divs shl shr sar eq ltu lts") {
		got := ir.Show(values(ir.Op{Kind: ir.Alu, F: k + 1, A: 2, B: 1}))
		if s := got[len(got)-1]; s != "v4 = "+word+" v2 v1" {
			t.Error(k, s)
		}
	}
	if got := ir.Show(values(ir.Op{Kind: 14})); len(got) != 0 {
		t.Error("not valid", got)
	}
	if got := ir.Show(code()); len(got) != 0 {
		t.Error("no steps", got)
	}
}

// The document's example.
func TestExample(t *testing.T) {
	var m ir.Maker
	m.Put(0, m.Alu(ir.Add, m.Const(5), m.Get(0)))
	m.End = ir.End{Kind: ir.Goto, To: 9}
	if got := ir.Show(m.Code); !slices.Equal(got, []string{"v0 = const 5", "v1 = get 0", "v2 = add v0 v1", "put 0 v2"}) {
		t.Errorf("%q", got)
	}
	s := ir.State{Cell: [19]uint64{0: 7, 1: 8}}
	if how, to := ir.Run(m.Code, &s, 0, nil); how != api.Runs || to != 9 || s != (ir.State{Cell: [19]uint64{0: 12, 1: 8}}) {
		t.Error(how, to, s)
	}
}

// P13.1: functions of two words, by hand.
func TestDo(t *testing.T) {
	const least, half = 1 << 63, 1 << 32
	for _, x := range []struct {
		f          int
		a, b, want uint64
	}{
		{ir.Add, all, 2, 1}, {ir.Sub, 1, 2, all}, {ir.And, 12, 10, 8}, {ir.Or, 12, 10, 14}, {ir.Xor, 12, 10, 6},
		{ir.Mul, half + 1, half + 1, 2*half + 1}, {ir.Mul, all, all, 1},
		{ir.MulU, half, half, 1}, {ir.MulU, all, all, all - 1}, {ir.MulS, all, all, 0}, {ir.MulS, all, 1, all}, {ir.MulS, least, least, 1 << 62},
		{ir.DivU, 7, 2, 3}, {ir.DivU, 7, 0, 0}, {ir.DivU, all, 2, all / 2}, {ir.DivU, 0, 0, 0},
		{ir.DivS, all - 6, 2, all - 2}, {ir.DivS, 7, all - 1, all - 2}, {ir.DivS, 7, 0, 0}, {ir.DivS, least, all, least}, {ir.DivS, least, 1, least},
		{ir.Shl, 3, 63, least}, {ir.Shl, 3, 64, 3}, {ir.Shl, 3, all, least}, {ir.Shl, 3, 1 << 40, 3},
		{ir.Shr, least, 63, 1}, {ir.Shr, least, 65, 1 << 62}, {ir.Shr, all, 128, all},
		{ir.Sar, least, 63, all}, {ir.Sar, least, 64, least}, {ir.Sar, least - 1, 62, 1},
		{ir.Eq, 5, 5, 1}, {ir.Eq, 5, 5 + half, 0},
		{ir.LtU, 1, all, 1}, {ir.LtU, all, 1, 0}, {ir.LtU, 1, 1, 0}, {ir.LtS, 1, all, 0}, {ir.LtS, all, 1, 1}, {ir.LtS, least, least - 1, 1}, {ir.LtS, 1, 1, 0},
		{0, 5, 5, 0}, {17, 5, 5, 0}, {-1, 5, 5, 0}, {math.MinInt, 5, 5, 0}, {math.MaxInt, 5, 5, 0},
	} {
		if got := ir.Do(x.f, x.a, x.b); got != x.want {
			t.Errorf("%+v: %d", x, got)
		}
	}
}

// unsigned and signed are a word as a number without bounds.
func unsigned(v uint64) *big.Int { return new(big.Int).SetUint64(v) }
func signed(v uint64) *big.Int   { return big.NewInt(int64(v)) }

// word is the lowest word of a number without bounds.
func word(n *big.Int) uint64 {
	return new(big.Int).And(n, unsigned(all)).Uint64()
}

// truth is 1 or 0.
func truth(is bool) uint64 {
	if is {
		return 1
	}
	return 0
}

// answers are what all functions make of two words, reckoned without bounds.
func answers(a, b uint64) map[int]uint64 {
	ua, ub, sa, sb, n := unsigned(a), unsigned(b), signed(a), signed(b), uint(b%64)
	num := func() *big.Int { return new(big.Int) }
	l := map[int]uint64{
		ir.Add: word(num().Add(ua, ub)), ir.Sub: word(num().Sub(ua, ub)), ir.And: word(num().And(ua, ub)), ir.Or: word(num().Or(ua, ub)), ir.Xor: word(num().Xor(ua, ub)),
		ir.Mul: word(num().Mul(ua, ub)), ir.MulU: word(num().Rsh(num().Mul(ua, ub), 64)), ir.MulS: word(num().Rsh(num().Mul(sa, sb), 64)),
		ir.Shl: word(num().Lsh(ua, n)), ir.Shr: word(num().Rsh(ua, n)), ir.Sar: word(num().Rsh(sa, n)),
		ir.Eq: truth(ua.Cmp(ub) == 0), ir.LtU: truth(ua.Cmp(ub) < 0), ir.LtS: truth(sa.Cmp(sb) < 0),
	}
	if b != 0 {
		l[ir.DivU], l[ir.DivS] = word(num().Quo(ua, ub)), word(num().Quo(sa, sb))
	}
	return l
}

// P13.1: functions of many words, held against numbers without bounds.
func TestDoMany(t *testing.T) {
	d := &dice{1}
	for range 20000 {
		a, b := d.number(), d.number()
		want := answers(a, b)
		for f := -1; f < 19; f++ {
			if got := ir.Do(f, a, b); got != want[f] {
				t.Fatalf("Do(%d, %d, %d): %d, not %d", f, a, b, got, want[f])
			}
		}
	}
}

// P13.3: each call of a maker.
func TestMaker(t *testing.T) {
	var m ir.Maker
	for k, n := range []int{m.Const(7), m.Get(18), m.Ext(1, 2, true), m.Ext(0, 8, false), m.Sel(2, 1, 0), m.Add(ir.Op{Kind: 99, A: -1})} {
		if n != k {
			t.Error("number", k, n)
		}
	}
	m.Put(17, 4)
	want := []ir.Op{{Kind: ir.Const, N: 7}, {Kind: ir.Get, N: 18}, {Kind: ir.Ext, W: 2, A: 1, Signed: true}, {Kind: ir.Ext, W: 8}, {Kind: ir.Sel, A: 2, B: 1}, {Kind: 99, A: -1}, {Kind: ir.Put, N: 17, A: 4}}
	if !slices.Equal(m.Ops, want) {
		t.Errorf("%+v", m.Ops)
	}
	if m.At != 0 || m.Next != 0 || m.End != (ir.End{}) {
		t.Errorf("%+v", m.Code)
	}
}

// P13.3: Alu of none, one, two and more.
func TestMakerAlu(t *testing.T) {
	var m ir.Maker
	for range 5 {
		m.Get(1)
	}
	l := []int{4, 3, 2, 1}
	if n := m.Alu(ir.Sub, 3); n != 3 || len(m.Ops) != 5 {
		t.Error("one", n, len(m.Ops))
	}
	if n := m.Alu(ir.Sub); n != 5 || m.Ops[5] != (ir.Op{Kind: ir.Const}) {
		t.Error("none", n, m.Ops)
	}
	if n := m.Alu(ir.Sub, 4, 2); n != 6 || m.Ops[6] != (ir.Op{Kind: ir.Alu, F: ir.Sub, A: 4, B: 2}) {
		t.Error("two", n, m.Ops)
	}
	if n := m.Alu(ir.Shl, l...); n != 9 || !slices.Equal(m.Ops[7:], []ir.Op{{Kind: ir.Alu, F: ir.Shl, A: 4, B: 3}, {Kind: ir.Alu, F: ir.Shl, A: 7, B: 2}, {Kind: ir.Alu, F: ir.Shl, A: 8, B: 1}}) {
		t.Error("four", n, m.Ops)
	}
	if !slices.Equal(l, []int{4, 3, 2, 1}) {
		t.Error("changed", l)
	}
	m.Alu(-5, -1, 1000)
	if m.Ops[10] != (ir.Op{Kind: ir.Alu, F: -5, A: -1, B: 1000}) {
		t.Error("what may not be", m.Ops[10])
	}
}

// P13.3: no maker.
func TestMakerNil(t *testing.T) {
	var m *ir.Maker
	m.Put(1, 2)
	for k, n := range []int{m.Add(ir.Op{Kind: ir.Const}), m.Const(5), m.Get(5), m.Alu(ir.Add), m.Alu(ir.Add, 7), m.Alu(ir.Add, 7, 8), m.Ext(1, 2, true), m.Sel(1, 2, 3)} {
		if n != 0 {
			t.Error(k, n)
		}
	}
}

// memory is bytes from 64 on that may be written, and some from 96 on that may be read.
func memory() *mem.Mem {
	b := []byte{0, 1, 2, 3, 4, 5, 6, 7, 8, 9, 10, 11, 12, 13, 14, 0xFF}
	return mem.New(mem.Area{Lo: 64, Data: b, Write: true}, mem.Area{Lo: 96, Data: b}, mem.Area{Lo: 128, Data: b, Write: true, Private: true})
}

// P13.2: values of all pure steps, by way of cells.
func TestRunPure(t *testing.T) {
	for _, x := range []struct {
		o    ir.Op
		want uint64
	}{
		{ir.Op{Kind: ir.Const, N: all}, all}, {ir.Op{Kind: ir.Get, N: 3}, 0x18091}, {ir.Op{Kind: ir.Get, N: 18}, 0},
		{ir.Op{Kind: ir.Alu, F: ir.Sub, A: 0, B: 1}, 1<<64 + 5 - 0x18091},
		{ir.Op{Kind: ir.Ext, W: 1, A: 1}, 0x91}, {ir.Op{Kind: ir.Ext, W: 1, A: 1, Signed: true}, all - 0x6E}, {ir.Op{Kind: ir.Ext, W: 2, A: 1}, 0x8091},
		{ir.Op{Kind: ir.Ext, W: 2, A: 1, Signed: true}, all - 0x7F6E}, {ir.Op{Kind: ir.Ext, W: 4, A: 1, Signed: true}, 0x18091}, {ir.Op{Kind: ir.Ext, W: 8, A: 1, Signed: true}, 0x18091},
		{ir.Op{Kind: ir.Sel, A: 0, B: 1, C: 2}, 0x18091}, {ir.Op{Kind: ir.Sel, A: 2, B: 1, C: 0}, 5},
	} {
		c := values(x.o, ir.Op{Kind: ir.Put, N: 16, A: 4})
		s := ir.State{Cell: [19]uint64{3: 0x18091}}
		if how, to := ir.Run(c, &s, 0, memory()); how != api.Runs || to != 9 || s.Cell[16] != x.want {
			t.Errorf("%+v: %d %d %x", x.o, how, to, s.Cell[16])
		}
	}
}

// P13.2: ends, by hand.
func TestRunEnds(t *testing.T) {
	for _, x := range []struct {
		e   ir.End
		how int
		to  uint64
	}{
		{ir.End{Kind: ir.Goto, To: 7}, api.Runs, 7},
		{ir.End{Kind: ir.If, A: 0, To: 7, Else: 8}, api.Runs, 7},
		{ir.End{Kind: ir.If, A: 2, To: 7, Else: 8}, api.Runs, 8},
		{ir.End{Kind: ir.Jump, A: 1}, api.Runs, 33},
		{ir.End{Kind: ir.Sys, To: 7}, api.Calls, 7},
		{ir.End{Kind: ir.Stop, A: 1}, api.Exits, 0},
		{ir.End{Kind: ir.Stop, A: 6}, api.FaultSys, 0},
	} {
		c := values(ir.Op{Kind: ir.Put, N: 5, A: 0})
		c.End = x.e
		s := ir.State{Cell: [19]uint64{3: 33}}
		if how, to := ir.Run(c, &s, 0, nil); how != x.how || to != x.to || s.Cell[5] != 5 {
			t.Errorf("%+v: %d %d", x.e, how, to)
		}
	}
}

// P13.2: a trap and a skip end code if their value is not 0. What was done before stays.
func TestRunLeaves(t *testing.T) {
	for _, x := range []struct {
		o   ir.Op
		how int
		to  uint64
	}{
		{ir.Op{Kind: ir.Trap, N: 3, A: 0}, 3, 0}, {ir.Op{Kind: ir.Trap, N: 1, A: 1}, 1, 0}, {ir.Op{Kind: ir.Trap, N: 3, A: 2}, api.Runs, 9},
		{ir.Op{Kind: ir.Skip, N: 77, A: 0}, api.Runs, 77}, {ir.Op{Kind: ir.Skip, N: 77, A: 2}, api.Runs, 9},
		{ir.Op{Kind: ir.Load, W: 1, A: 0}, api.FaultMem, 0}, {ir.Op{Kind: ir.Store, W: 1, A: 0}, api.FaultMem, 0},
	} {
		m := memory()
		c := values(ir.Op{Kind: ir.Put, N: 5, A: 0}, ir.Op{Kind: ir.Const, N: 70}, ir.Op{Kind: ir.Store, W: 1, A: 5, B: 0}, x.o, ir.Op{Kind: ir.Put, N: 6, A: 0}, ir.Op{Kind: ir.Store, W: 1, A: 5, B: 1})
		s := ir.State{Cell: [19]uint64{3: 1 << 63}}
		how, to := ir.Run(c, &s, 1, m)
		left := x.to != 9
		if how != x.how || to != x.to || s.Cell[5] != 5 || (s.Cell[6] == 5) == left || (m.Pending(1) == 1) != left {
			t.Errorf("%+v: %d %d %v %d", x.o, how, to, s.Cell, m.Pending(1))
		}
		if m.Pending(0) != 0 {
			t.Error("another thread")
		}
	}
}

// access is code that puts the value of a step that touches memory at a place to cell 0.
func access(at uint64, l ...ir.Op) ir.Code {
	return code(append([]ir.Op{{Kind: ir.Const, N: at}, {Kind: ir.Const, N: 0x1122334455667788}}, l...)...)
}

// P13.2: loads and stores by a thread's buffer.
func TestRunMemory(t *testing.T) {
	for _, w := range widths {
		for _, ord := range []int{ir.Plain, ir.Strong} {
			m, n := memory(), memory()
			var s ir.State
			c := access(65, ir.Op{Kind: ir.Store, W: w, A: 0, B: 1, Ord: ord}, ir.Op{Kind: ir.Load, W: w, A: 0, Ord: ord}, ir.Op{Kind: ir.Put, A: 3})
			if how, to := ir.Run(c, &s, 2, m); how != api.Runs || to != 9 || s.Cell[0] != 0x1122334455667788<<(64-8*w)>>(64-8*w) {
				t.Error("width", w, how, to, s.Cell[0])
			}
			if m.Pending(2) != 1 || !m.Same(n) {
				t.Error("width", w, "is not in the buffer alone")
			}
			n.Put(2, 65, w, 0x1122334455667788)
			if m.Drain(2); !m.Same(n) {
				t.Error("width", w, "is stored elsewhere")
			}
		}
	}
}

// P13.2: an exclusive pair goes by memory, and a fence flushes if it is Full.
func TestRunExclusive(t *testing.T) {
	m := memory()
	m.Store(0, 64, 1, 99)
	m.Store(1, 65, 1, 98)
	var s ir.State
	pair := access(64, ir.Op{Kind: ir.Lx, W: 2, A: 0}, ir.Op{Kind: ir.Sx, W: 2, A: 0, B: 1}, ir.Op{Kind: ir.Put, A: 2})
	if how, _ := ir.Run(pair, &s, 0, m); how != api.Runs || s.Cell[0] != 99+256 || m.Pending(0) != 0 || m.Pending(1) != 1 {
		t.Error("pair", how, s.Cell[0], m.Pending(0))
	}
	if v, _ := m.Load(2, 64, 4); v != 0x03027788 {
		t.Errorf("pair %x", v)
	}
	for _, f := range []int{ir.Full, ir.Loads, ir.Stores} {
		m.Store(0, 70, 1, 1)
		ir.Run(code(ir.Op{Kind: ir.Fence, F: f}), &s, 0, m)
		if flushed := m.Pending(0) == 0; flushed != (f == ir.Full) {
			t.Error("fence", f)
		}
	}
	m.Flush(0)
	// What may be read only: the pair fails when it is to be written, and nothing is.
	m.Store(0, 70, 1, 2)
	n := m.Copy()
	n.Flush(0)
	pair.Ops[0].N = 96
	s = ir.State{}
	if how, to := ir.Run(pair, &s, 0, m); how != api.FaultMem || to != 0 || s.Cell[0] != 0 || !m.Same(n) {
		t.Error("a pair that may not be written", how, to)
	}
	// The buffer is flushed before it is seen that the bytes may not be read.
	m.Store(0, 70, 1, 3)
	pair.Ops[0].N = 128
	if how, to := ir.Run(pair, &s, 0, m); how != api.FaultMem || to != 0 || m.Pending(0) != 0 {
		t.Error("a pair that may not be read", how, to, m.Pending(0))
	}
}

// P13.2: accesses that are not allowed.
func TestRunFaults(t *testing.T) {
	for _, x := range []struct {
		at    uint64
		w, t  int
		m     *mem.Mem
		read  bool
		write bool
	}{
		{64, 8, 0, memory(), true, true}, {72, 8, 0, memory(), true, true}, {73, 8, 0, memory(), false, false}, {63, 1, 0, memory(), false, false},
		{96, 4, 7, memory(), true, false}, {128, 1, 0, memory(), false, false}, {all, 1, 0, memory(), false, false}, {all - 3, 8, 0, memory(), false, false},
		{64, 1, 8, memory(), false, false}, {64, 1, -1, memory(), false, false}, {64, 1, 0, nil, false, false},
	} {
		for _, o := range []ir.Op{{Kind: ir.Load, W: x.w}, {Kind: ir.Store, W: x.w, B: 1}} {
			may := x.read && o.Kind == ir.Load || x.write && o.Kind == ir.Store
			s := ir.State{}
			how, to := ir.Run(access(x.at, o, ir.Op{Kind: ir.Put, N: 7, A: 1}), &s, x.t, x.m)
			if may != (how == api.Runs && to == 9 && s.Cell[7] != 0) || !may && (how != api.FaultMem || to != 0 || s != ir.State{}) {
				t.Errorf("%+v %d: %d %d", x, o.Kind, how, to)
			}
		}
	}
}

// P13.2: code of as many steps as there may be, whose end uses the last one.
func TestRunMost(t *testing.T) {
	var m ir.Maker
	last := m.Const(1)
	for len(m.Ops) < 250 {
		last = m.Alu(ir.Add, last, last)
		if len(m.Ops) == 60 {
			last = m.Get(3)
		}
	}
	m.End = ir.End{Kind: ir.Jump, A: 249}
	s := ir.State{Cell: [19]uint64{3: 1}}
	if how, to := ir.Run(m.Code, &s, 0, nil); how != api.Runs || last != 249 || to != 0 {
		t.Error(how, to, last)
	}
	m.Ops[187] = ir.Op{Kind: ir.Get, N: 3}
	if how, to := ir.Run(m.Code, &s, 0, nil); how != api.Runs || to != 1<<62 {
		t.Error(how, to)
	}
}

// P13.2: code that is not valid, and no cells.
func TestRunNone(t *testing.T) {
	m := memory()
	m.Store(0, 64, 1, 9)
	put := []ir.Op{{Kind: ir.Const, N: 5}, {Kind: ir.Fence, F: 1}, {Kind: ir.Put, N: 0, A: 0}}
	if how, to := ir.Run(code(put...), nil, 0, m); how != api.FaultUd || to != 0 || m.Pending(0) != 1 {
		t.Error("no cells", how, to)
	}
	var s ir.State
	for _, c := range []ir.Code{{}, {Ops: put}, code(append(put, ir.Op{Kind: 99})...), code(append(put, ir.Op{Kind: ir.Lx, W: 1})...), code(make([]ir.Op, 251)...)} {
		if how, to := ir.Run(c, &s, 0, m); how != api.FaultUd || to != 0 || s != (ir.State{}) || m.Pending(0) != 1 {
			t.Error("not valid", how, to, s)
		}
	}
}
