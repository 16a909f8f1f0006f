package order_test

import (
	"math"
	"slices"
	"strconv"
	"strings"
	"testing"

	"calque/api"
	"calque/ir"
	"calque/lift"
	"calque/order"
	"calque/span"
	"calque/xinst"
)

// The numbers that the document gives to the ways.
func TestNumbers(t *testing.T) {
	if order.Acquire != 0 || order.Fences != 1 {
		t.Error(order.Acquire, order.Fences)
	}
}

// code is steps with an end that goes to 9.
func code(ops ...ir.Op) ir.Code {
	return ir.Code{At: 5, Next: 9, Ops: ops, End: ir.End{Kind: ir.Goto, To: 9}}
}

// Steps of which codes are made. The values that they use are those of step 0.
var (
	seven = ir.Op{Kind: ir.Const, N: 7}
	get   = ir.Op{Kind: ir.Get, N: 4}
	load  = ir.Op{Kind: ir.Load, W: 8}
	store = ir.Op{Kind: ir.Store, W: 2}
	full  = ir.Op{Kind: ir.Fence, F: ir.Full}
	loads = ir.Op{Kind: ir.Fence, F: ir.Loads}
	puts  = ir.Op{Kind: ir.Fence, F: ir.Stores}
	lx    = ir.Op{Kind: ir.Lx, W: 4}
	sx    = ir.Op{Kind: ir.Sx, W: 4}
)

// strong is an access with the order Strong.
func strong(o ir.Op) ir.Op {
	o.Ord = ir.Strong
	return o
}

// private is an access that may be private, at a place.
func private(code, op int) span.Access {
	return span.Access{Code: code, Op: op, Off: -8, W: 8}
}

// words is the text of code's steps.
func words(c ir.Code) string { return strings.Join(ir.Show(c), "; ") }

// same reports whether codes are equal.
func same(c, d ir.Code) bool {
	return c.At == d.At && c.Next == d.Next && c.End == d.End && slices.Equal(c.Ops, d.Ops)
}

// P17.1: code by each way, by hand.
func TestMark(t *testing.T) {
	alu := func(a, b int) ir.Op { return ir.Op{Kind: ir.Alu, F: ir.Add, A: a, B: b} }
	for _, x := range []struct {
		what            string
		l               []ir.Op
		private         []span.Access
		acquire, fences string
	}{
		{"no step", nil, nil, "", ""},
		{"no access", []ir.Op{seven, full, alu(0, 0), {Kind: ir.Trap, N: 2}}, nil, "v0 = const 7; fence 1; v2 = add v0 v0; trap 2 v0", "v0 = const 7; fence 1; v2 = add v0 v0; trap 2 v0"},
		{"the example", []ir.Op{seven, load, {Kind: ir.Store, W: 4, A: 0, B: 1}}, nil, "v0 = const 7; v1 = load.8 v0 !; store.4 v0 v1 !", "v0 = const 7; v1 = load.8 v0; fence 2; fence 3; store.4 v0 v1"},
		{"its load is private", []ir.Op{seven, load, {Kind: ir.Store, W: 4, A: 0, B: 1}}, []span.Access{private(0, 1)}, "v0 = const 7; v1 = load.8 v0; store.4 v0 v1 !", "v0 = const 7; v1 = load.8 v0; fence 3; store.4 v0 v1"},
		{"its store is private", []ir.Op{seven, load, {Kind: ir.Store, W: 4, A: 0, B: 1}}, []span.Access{private(0, 2)}, "v0 = const 7; v1 = load.8 v0 !; store.4 v0 v1", "v0 = const 7; v1 = load.8 v0; fence 2; store.4 v0 v1"},
		{"both are private", []ir.Op{seven, load, store}, []span.Access{private(0, 2), private(0, 1)}, "v0 = const 7; v1 = load.8 v0; store.2 v0 v0", "v0 = const 7; v1 = load.8 v0; store.2 v0 v0"},
		{"the same one twice", []ir.Op{seven, load, store}, []span.Access{private(0, 1), private(0, 1)}, "v0 = const 7; v1 = load.8 v0; store.2 v0 v0 !", "v0 = const 7; v1 = load.8 v0; fence 3; store.2 v0 v0"},
		{"ordered before", []ir.Op{seven, strong(load), strong(store)}, nil, "v0 = const 7; v1 = load.8 v0 !; store.2 v0 v0 !", "v0 = const 7; v1 = load.8 v0; fence 2; fence 3; store.2 v0 v0"},
		{"ordered before, private", []ir.Op{seven, strong(load), strong(store)}, []span.Access{private(0, 1), private(0, 2)}, "v0 = const 7; v1 = load.8 v0; store.2 v0 v0", "v0 = const 7; v1 = load.8 v0; store.2 v0 v0"},
		{"fences that were there", []ir.Op{full, seven, {Kind: ir.Load, W: 1, A: 1}, loads, puts, {Kind: ir.Store, W: 1, A: 1, B: 2}, loads}, []span.Access{private(0, 2)}, "fence 1; v1 = const 7; v2 = load.1 v1; fence 2; fence 3; store.1 v1 v2 !; fence 2", "fence 1; v1 = const 7; v2 = load.1 v1; fence 2; fence 3; fence 3; store.1 v1 v2; fence 2"},
		{"an exclusive pair", []ir.Op{seven, full, lx, alu(2, 0), {Kind: ir.Sx, W: 4, B: 3}, full, load}, []span.Access{private(0, 2), private(0, 4)}, "v0 = const 7; fence 1; v2 = lx.4 v0; v3 = add v2 v0; sx.4 v0 v3; fence 1; v6 = load.8 v0 !", "v0 = const 7; fence 1; v2 = lx.4 v0; v3 = add v2 v0; sx.4 v0 v3; fence 1; v6 = load.8 v0; fence 2"},
		{"numbers behind fences", []ir.Op{seven, load, load, alu(1, 2), {Kind: ir.Sel, A: 1, B: 2, C: 3}, {Kind: ir.Ext, W: 2, A: 4, Signed: true}, {Kind: ir.Put, N: 3, A: 5}, {Kind: ir.Skip, N: 1, A: 4}, {Kind: ir.Store, W: 1, A: 2, B: 5}, {Kind: ir.Trap, N: 6, A: 2}}, nil,
			"v0 = const 7; v1 = load.8 v0 !; v2 = load.8 v0 !; v3 = add v1 v2; v4 = sel v1 v2 v3; v5 = ext.2s v4; put 3 v5; skip 1 v4; store.1 v2 v5 !; trap 6 v2",
			"v0 = const 7; v1 = load.8 v0; fence 2; v3 = load.8 v0; fence 2; v5 = add v1 v3; v6 = sel v1 v3 v5; v7 = ext.2s v6; put 3 v7; skip 1 v6; fence 3; store.1 v3 v7; trap 6 v3"},
	} {
		for way, want := range []string{x.acquire, x.fences} {
			got := order.Mark(way, x.private, code(x.l...))
			if len(got) != 1 || !ir.May(got[0]) || words(got[0]) != want {
				t.Errorf("%s, %d: %+v; want %q", x.what, way, got, want)
				continue
			}
			if got[0].At != 5 || got[0].Next != 9 || got[0].End != (ir.End{Kind: ir.Goto, To: 9}) {
				t.Errorf("%s, %d: %+v", x.what, way, got)
			}
		}
	}
}

// P17.1: the step that an end uses is renumbered, and nothing else of an end.
func TestMarkEnds(t *testing.T) {
	for _, x := range []struct{ end, want ir.End }{
		{ir.End{Kind: ir.Goto, To: 2}, ir.End{Kind: ir.Goto, To: 2}},
		{ir.End{Kind: ir.If, A: 0, To: 1, Else: 2}, ir.End{Kind: ir.If, A: 0, To: 1, Else: 2}},
		{ir.End{Kind: ir.If, A: 2, To: 2, Else: 1}, ir.End{Kind: ir.If, A: 3, To: 2, Else: 1}},
		{ir.End{Kind: ir.Jump, A: 1}, ir.End{Kind: ir.Jump, A: 1}},
		{ir.End{Kind: ir.Jump, A: 2}, ir.End{Kind: ir.Jump, A: 3}},
		{ir.End{Kind: ir.Sys, To: 2}, ir.End{Kind: ir.Sys, To: 2}},
		{ir.End{Kind: ir.Stop, A: 2}, ir.End{Kind: ir.Stop, A: 2}},
	} {
		c := ir.Code{At: 1, Next: 2, Ops: []ir.Op{seven, load, load}, End: x.end}
		want := c
		want.Ops, want.End = []ir.Op{seven, load, loads, load, loads}, x.want
		if got := order.Mark(order.Fences, nil, c); len(got) != 1 || !same(got[0], want) {
			t.Errorf("%+v: %+v", x.end, got)
		}
		want.Ops, want.End = []ir.Op{seven, strong(load), strong(load)}, x.end
		if got := order.Mark(order.Acquire, nil, c); len(got) != 1 || !same(got[0], want) {
			t.Errorf("%+v: %+v", x.end, got)
		}
	}
}

// P17.1: what is private is told by code and step alone, in several codes; what names no Load and no Store names nothing.
func TestMarkPlaces(t *testing.T) {
	l := []ir.Code{code(seven, load, store), code(seven, full), code(seven, store, load, lx, sx)}
	for _, x := range []struct {
		private []span.Access
		want    string // of the accesses, in their order, those that stay plain
	}{
		{nil, "...."},
		{[]span.Access{{Code: 0, Op: 1}}, "p..."},
		{[]span.Access{{Code: 0, Op: 2, Off: math.MaxInt64, W: math.MinInt}}, ".p.."},
		{[]span.Access{{Code: 2, Op: 1, Off: 1, W: 3}, {Code: 0, Op: 2}}, ".pp."},
		{[]span.Access{{Code: 2, Op: 2, Off: 1}, {Code: 2, Op: 2, Off: 2}, {Code: 0, Op: 1}}, "p..p"},
		{[]span.Access{private(1, 1), private(1, 2), private(0, 0), private(2, 3), private(2, 4)}, "...."},
		{[]span.Access{private(-1, 1), private(3, 1), private(0, -1), private(0, 3), private(1, -2), private(2, 5), private(0, 1)}, "p..."},
		{[]span.Access{private(math.MinInt, math.MaxInt), private(math.MaxInt, 1), private(2, math.MinInt), private(1<<32, 1), private(0, 1<<32+1)}, "...."},
		{[]span.Access{private(0, 1), private(0, 2), private(2, 1), private(2, 2)}, "pppp"},
	} {
		kept := func(k int, o ir.Op) ir.Op {
			if x.want[k] == 'p' {
				return o
			}
			return strong(o)
		}
		want := []ir.Code{code(seven, kept(0, load), kept(1, store)), l[1], code(seven, kept(2, store), kept(3, load), lx, sx)}
		if got := order.Mark(order.Acquire, x.private, l...); !slices.EqualFunc(got, want, same) {
			t.Errorf("%v: %+v", x.private, got)
		}
		all := strings.NewReplacer("0.", "r2", "0p", "r", "1.", "3w", "1p", "w")
		text := all.Replace("0"+x.want[:1]+"1"+x.want[1:2]) + "1" + all.Replace("1"+x.want[2:3]+"0"+x.want[3:])
		if got := letters(order.Mark(order.Fences, x.private, l...)); got != text {
			t.Errorf("%v: %s, not %s", x.private, got, text)
		}
	}
}

// P17.1: ways that are none, and codes that are not valid.
func TestMarkWrong(t *testing.T) {
	good := code(seven, load)
	for _, way := range []int{-1, 2, 3, math.MinInt, math.MaxInt, 1 << 32} {
		if got := order.Mark(way, nil, good); len(got) != 0 {
			t.Error("way", way, got)
		}
	}
	for _, bad := range []ir.Code{{}, {Ops: []ir.Op{seven}}, code(ir.Op{Kind: 99}), code(load), code(seven, ir.Op{Kind: ir.Load, W: 3}), code(seven, ir.Op{Kind: ir.Load, W: 8, A: math.MinInt}),
		code(seven, ir.Op{Kind: ir.Load, W: 8, Ord: 2}), code(seven, ir.Op{Kind: ir.Store, W: 8, C: 1}), code(seven, lx), code(seven, lx, load, sx), code(seven, ir.Op{Kind: ir.Fence, F: 4}), code(slices.Repeat([]ir.Op{seven}, 251)...)} {
		for way := range 2 {
			for _, l := range [][]ir.Code{{bad}, {good, bad}, {bad, good}, {good, bad, good}} {
				if got := order.Mark(way, []span.Access{private(0, 1), private(1, math.MaxInt)}, l...); len(got) != 0 {
					t.Errorf("%d %+v: %+v", way, l, got)
				}
			}
		}
	}
	for way := range 2 {
		if got := order.Mark(way, []span.Access{private(0, 0)}); len(got) != 0 {
			t.Error("no codes", got)
		}
	}
}

// P17.1: code of as many steps as there may be, and of one more.
func TestMarkMost(t *testing.T) {
	small := code(seven, store)
	for _, x := range []struct {
		consts, loads, stores int
		private               int // of the accesses
		fit                   bool
	}{
		{250, 0, 0, 0, true}, {248, 1, 0, 0, true}, {249, 1, 0, 0, false}, {249, 0, 1, 0, false}, {246, 1, 1, 0, true}, {247, 1, 1, 0, false},
		{247, 1, 1, 1, true}, {248, 1, 1, 1, false}, {248, 1, 1, 2, true}, {2, 124, 0, 0, true}, {1, 125, 0, 0, false}, {3, 124, 0, 0, false}, {1, 125, 0, 1, true}, {1, 0, 249, 249, true}, {1, 0, 249, 248, false},
	} {
		ops := append(slices.Repeat([]ir.Op{seven}, x.consts), slices.Repeat([]ir.Op{load}, x.loads)...)
		c := code(append(ops, slices.Repeat([]ir.Op{store}, x.stores)...)...)
		for k, l := range [][]ir.Code{{c}, {c, small}, {small, c}, {small, small, c}} {
			var alone []span.Access
			for n := range x.private {
				alone = append(alone, private(slices.IndexFunc(l, func(d ir.Code) bool { return len(d.Ops) > 2 }), x.consts+n))
			}
			got := order.Mark(order.Fences, alone, l...)
			if x.fit && len(got) != len(l) || !x.fit && len(got) != 0 {
				t.Errorf("%+v, %d: %d codes", x, k, len(got))
			}
			if got := order.Mark(order.Acquire, alone, l...); len(got) != len(l) {
				t.Errorf("%+v, %d: %d codes", x, k, len(got))
			}
		}
	}
}

// P17.1: no argument is changed, and no result shares memory with one, nor with another.
func TestMarkShares(t *testing.T) {
	steps := []ir.Op{full, seven, {Kind: ir.Load, W: 8, A: 1}, {Kind: ir.Store, W: 8, A: 1, B: 2}, {Kind: ir.Put, N: 3, A: 2}}
	for way := range 2 {
		c := code(slices.Clone(steps)...)
		alone := []span.Access{private(0, 2)}
		first := order.Mark(way, alone, c, c)
		second := order.Mark(way, alone, c, c)
		if !slices.Equal(c.Ops, steps) || alone[0] != private(0, 2) {
			t.Fatal("an argument is changed", c, alone)
		}
		want := words(second[1])
		for k := range first[0].Ops {
			first[0].Ops[k] = ir.Op{}
		}
		_ = append(first[0].Ops, full, full, full)
		alone[0] = span.Access{}
		clear(c.Ops)
		if words(first[1]) != want || words(second[1]) != want || words(second[0]) == want {
			t.Error(way, "results share memory", first, second)
		}
	}
}

// P17.2: the accesses that may be private, of some codes.
func TestPrivate(t *testing.T) {
	push := xinst.Inst{Op: xinst.Push, W: 8, A: xinst.R(0), Len: 1}
	pop := xinst.Inst{Op: xinst.Pop, W: 8, A: xinst.R(1), Len: 1}
	mov := xinst.Inst{Op: xinst.Mov, W: 4, A: xinst.R(1), B: xinst.M(4, xinst.No, 1, 40), Len: 4}
	other := xinst.Inst{Op: xinst.Mov, W: 4, A: xinst.R(1), B: xinst.M(3, xinst.No, 1, 40), Len: 4}
	lock := xinst.Inst{Op: xinst.Add, W: 4, A: xinst.M(4, xinst.No, 1, 0), B: xinst.R(1), Lock: true, Len: 4}
	for _, x := range []struct {
		l    []xinst.Inst
		offs []int64
		s    span.Span
	}{
		{nil, nil, span.Span{}},
		{[]xinst.Inst{other, lock}, nil, span.Span{}},
		{[]xinst.Inst{push}, []int64{-8}, span.Span{Lo: -8}},
		{[]xinst.Inst{push, other, mov, pop, pop}, []int64{-8, 32, -8, 0}, span.Span{Lo: -8, Hi: 36}},
	} {
		codes, e := lift.All(0, x.l...)
		if e != api.OK {
			t.Fatal(e)
		}
		got, s, some := order.Private(codes...)
		var offs []int64
		for _, a := range got {
			offs = append(offs, a.Off)
		}
		if !slices.Equal(offs, x.offs) || s != x.s || some != (len(x.offs) > 0) || !slices.Equal(got, span.Find(codes...)) {
			t.Errorf("%v: %v %v %v", x.l, got, s, some)
		}
		if some {
			codes = append(codes, ir.Code{})
		}
		if got, s, some := order.Private(codes...); len(x.offs) > 0 && (len(got) > 0 || s != span.Span{} || some) {
			t.Errorf("not valid: %v %v %v", got, s, some)
		}
	}
}

// letters tells the accesses and fences of codes: r and w, R and W if they are strong, and the fences' numbers.
func letters(l []ir.Code) string {
	s := ""
	for _, c := range l {
		for _, o := range c.Ops {
			switch o.Kind {
			case ir.Load:
				s += "rR"[o.Ord : o.Ord+1]
			case ir.Store:
				s += "wW"[o.Ord : o.Ord+1]
			case ir.Fence:
				s += strconv.Itoa(o.F)
			}
		}
	}
	return s
}

// P17.1, P17.2: of instructions, the private accesses stay plain by both ways, and all others are kept in order.
func TestMarkLifted(t *testing.T) {
	codes, e := lift.All(0,
		xinst.Inst{Op: xinst.Push, W: 8, A: xinst.R(0), Len: 1},
		xinst.Inst{Op: xinst.Add, W: 4, A: xinst.M(3, xinst.No, 1, 0), B: xinst.R(1), Len: 2},
		xinst.Inst{Op: xinst.Add, W: 4, A: xinst.M(3, xinst.No, 1, 0), B: xinst.R(1), Lock: true, Len: 2},
		xinst.Inst{Op: xinst.Pop, W: 8, A: xinst.R(2), Len: 1})
	if e != api.OK {
		t.Fatal(e)
	}
	alone, _, _ := order.Private(codes...)
	for _, x := range []struct {
		way     int
		private []span.Access
		want    string
	}{
		{order.Acquire, alone, "wRW11r"}, {order.Acquire, nil, "WRW11R"}, {order.Fences, alone, "wr23w11r"}, {order.Fences, nil, "3wr23w11r2"},
	} {
		if got := letters(order.Mark(x.way, x.private, codes...)); got != x.want {
			t.Errorf("%d %v: %s, not %s", x.way, x.private, got, x.want)
		}
	}
}
