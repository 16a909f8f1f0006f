package span_test

import (
	"math"
	"slices"
	"testing"

	"calque/api"
	"calque/ir"
	"calque/lift"
	"calque/span"
	"calque/xinst"
)

const (
	all = math.MaxUint64
	far = 1 << 20
)

// maker is code that is made step by step.
type maker struct{ ir.Maker }

func newMaker() *maker {
	m := &maker{}
	m.End = ir.End{Kind: ir.Goto}
	return m
}

func (m *maker) sp() int                  { return m.Get(4) }
func (m *maker) num(n int64) int          { return m.Const(uint64(n)) }
func (m *maker) add(a, b int) int         { return m.Alu(ir.Add, a, b) }
func (m *maker) sub(a, b int) int         { return m.Alu(ir.Sub, a, b) }
func (m *maker) load(a int) int           { return m.Add(ir.Op{Kind: ir.Load, W: 8, A: a}) }
func (m *maker) store(a, w int)           { m.Add(ir.Op{Kind: ir.Store, W: w, A: a, B: a}) }
func (m *maker) ext(a, w int, s bool) int { return m.Ext(a, w, s) }

// made is code that a function makes.
func made(f func(m *maker)) ir.Code {
	m := newMaker()
	f(m)
	return m.Code
}

// P16.1: what is known of the address of a load, whose value is made by a function.
func TestKnown(t *testing.T) {
	const no = math.MinInt64 // not known to be sp and a number
	for k, x := range []struct {
		f    func(m *maker) int
		want int64
	}{
		{func(m *maker) int { return m.sp() }, 0},
		{func(m *maker) int { return m.num(64) }, no},
		{func(m *maker) int { return m.Get(5) }, no},
		{func(m *maker) int { return m.Get(0) }, no},
		{func(m *maker) int { return m.Get(18) }, no},
		{func(m *maker) int { return m.add(m.sp(), m.num(8)) }, 8},
		{func(m *maker) int { return m.add(m.num(8), m.sp()) }, 8},
		{func(m *maker) int { return m.add(m.num(-8), m.sp()) }, -8},
		{func(m *maker) int { return m.sub(m.sp(), m.num(8)) }, -8},
		{func(m *maker) int { return m.sub(m.sp(), m.num(-8)) }, 8},
		{func(m *maker) int { return m.sub(m.num(8), m.sp()) }, no},
		{func(m *maker) int { return m.add(m.sp(), m.sp()) }, no},
		{func(m *maker) int { return m.sub(m.sp(), m.sp()) }, no},
		{func(m *maker) int { return m.add(m.sp(), m.Get(5)) }, no},
		{func(m *maker) int { return m.add(m.Get(5), m.sp()) }, no},
		{func(m *maker) int { return m.add(m.Get(5), m.num(8)) }, no},
		{func(m *maker) int { return m.add(m.num(8), m.Get(5)) }, no},
		{func(m *maker) int { return m.sub(m.sp(), m.Get(5)) }, no},
		{func(m *maker) int { return m.sub(m.Get(5), m.num(8)) }, no},
		{func(m *maker) int { return m.sub(m.num(8), m.Get(5)) }, no},
		{func(m *maker) int { return m.add(m.num(8), m.num(8)) }, no},
		// Numbers of numbers:
		{func(m *maker) int { return m.add(m.sp(), m.add(m.num(8), m.num(-3))) }, 5},
		{func(m *maker) int { return m.add(m.sub(m.num(3), m.num(8)), m.sp()) }, -5},
		{func(m *maker) int { return m.sub(m.add(m.sp(), m.num(100)), m.add(m.num(1), m.num(2))) }, 97},
		{func(m *maker) int {
			return m.add(m.sp(), m.add(m.num(math.MaxInt64), m.add(m.num(math.MaxInt64), m.num(9))))
		}, 7},
		{func(m *maker) int { return m.add(m.sp(), m.sub(m.num(math.MinInt64), m.num(math.MinInt64))) }, 0},
		{func(m *maker) int { return m.add(m.sp(), m.sub(m.num(math.MinInt64+3), m.num(math.MinInt64))) }, 3},
		// Offsets at their ends, and beyond them:
		{func(m *maker) int { return m.add(m.sp(), m.num(far)) }, far},
		{func(m *maker) int { return m.add(m.sp(), m.num(-far)) }, -far},
		{func(m *maker) int { return m.add(m.sp(), m.num(far+1)) }, no},
		{func(m *maker) int { return m.add(m.num(-far-1), m.sp()) }, no},
		{func(m *maker) int { return m.sub(m.sp(), m.num(far)) }, -far},
		{func(m *maker) int { return m.sub(m.sp(), m.num(far+1)) }, no},
		{func(m *maker) int { return m.sub(m.sp(), m.num(-far)) }, far},
		{func(m *maker) int { return m.sub(m.sp(), m.num(-far-1)) }, no},
		{func(m *maker) int { return m.sub(m.add(m.sp(), m.num(far)), m.num(2*far)) }, -far},
		{func(m *maker) int { return m.add(m.add(m.sp(), m.num(-far)), m.num(2*far)) }, far},
		{func(m *maker) int { return m.sub(m.add(m.sp(), m.num(far+1)), m.num(1)) }, no},
		{func(m *maker) int { return m.add(m.sub(m.sp(), m.num(far+1)), m.num(1)) }, no},
		{func(m *maker) int { return m.add(m.sp(), m.num(1<<32)) }, no},
		{func(m *maker) int { return m.add(m.sp(), m.num(math.MaxInt64)) }, no},
		{func(m *maker) int { return m.add(m.sp(), m.num(math.MinInt64)) }, no},
		{func(m *maker) int { return m.sub(m.sp(), m.num(math.MinInt64)) }, no},
		{func(m *maker) int { return m.add(m.add(m.sp(), m.num(far)), m.num(math.MaxInt64)) }, no},
		{func(m *maker) int { return m.sub(m.add(m.sp(), m.num(-1)), m.num(math.MinInt64)) }, no},
		// Ext:
		{func(m *maker) int { return m.ext(m.add(m.sp(), m.num(8)), 8, false) }, 8},
		{func(m *maker) int { return m.ext(m.add(m.sp(), m.num(8)), 8, true) }, 8},
		{func(m *maker) int { return m.ext(m.sp(), 4, false) }, no},
		{func(m *maker) int { return m.ext(m.sp(), 4, true) }, no},
		{func(m *maker) int { return m.ext(m.sp(), 1, false) }, no},
		{func(m *maker) int { return m.add(m.sp(), m.ext(m.num(8), 8, true)) }, 8},
		{func(m *maker) int { return m.add(m.sp(), m.ext(m.num(8), 4, false)) }, no},
		{func(m *maker) int { return m.add(m.sp(), m.ext(m.num(8), 2, true)) }, no},
		{func(m *maker) int { return m.ext(m.Get(5), 8, true) }, no},
		// All others:
		{func(m *maker) int { return m.Alu(ir.And, m.sp(), m.num(-1)) }, no},
		{func(m *maker) int { return m.Alu(ir.Or, m.sp(), m.num(0)) }, no},
		{func(m *maker) int { return m.Alu(ir.Xor, m.sp(), m.num(0)) }, no},
		{func(m *maker) int { return m.Alu(ir.Mul, m.sp(), m.num(1)) }, no},
		{func(m *maker) int { return m.Alu(ir.Shl, m.sp(), m.num(0)) }, no},
		{func(m *maker) int { return m.add(m.sp(), m.Alu(ir.Shl, m.num(1), m.num(3))) }, no},
		{func(m *maker) int { return m.add(m.sp(), m.Alu(ir.Eq, m.num(1), m.num(1))) }, no},
		{func(m *maker) int { return m.Sel(m.num(1), m.sp(), m.sp()) }, no},
		{func(m *maker) int { return m.add(m.sp(), m.Sel(m.num(1), m.num(8), m.num(8))) }, no},
		{func(m *maker) int { return m.load(m.num(0)) }, no},
		{func(m *maker) int { return m.add(m.sp(), m.load(m.num(0))) }, no},
		// The cell:
		{func(m *maker) int { m.Put(4, m.sp()); return m.sp() }, 0},
		{func(m *maker) int { m.Put(4, m.sub(m.sp(), m.num(16))); return m.sp() }, -16},
		{func(m *maker) int { m.Put(4, m.sub(m.sp(), m.num(16))); return m.add(m.sp(), m.num(4)) }, -12},
		{func(m *maker) int { a := m.sp(); m.Put(4, m.sub(a, m.num(16))); return m.add(a, m.num(4)) }, 4},
		{func(m *maker) int { m.Put(5, m.sub(m.sp(), m.num(16))); return m.sp() }, 0},
		{func(m *maker) int { m.Put(5, m.sp()); return m.Get(5) }, no},
		{func(m *maker) int { m.Put(4, m.Get(5)); return m.sp() }, no},
		{func(m *maker) int { m.Put(4, m.num(64)); return m.sp() }, no},
		{func(m *maker) int { a := m.sp(); m.Put(4, m.num(64)); return m.add(m.sp(), a) }, 64},
		{func(m *maker) int { a := m.sp(); m.Put(4, m.Get(5)); m.Put(4, a); return m.sp() }, 0},
		{func(m *maker) int { m.Put(4, m.add(m.sp(), m.num(far+1))); return m.sub(m.sp(), m.num(1)) }, no},
	} {
		var at int
		c := made(func(m *maker) { at = m.load(x.f(m)) })
		got := span.Find(c)
		if len(got) != 0 && got[len(got)-1].Op < at {
			t.Fatalf("%d: %+v", k, got)
		}
		if want := (span.Access{Op: at, Off: x.want, W: 8}); x.want == no && len(got) != 0 || x.want != no && !slices.Equal(got, []span.Access{want}) {
			t.Errorf("%d: %q: %+v", k, ir.Show(c), got)
		}
	}
}

// P16.1: which steps are accesses, and their places and widths.
func TestAccesses(t *testing.T) {
	c := made(func(m *maker) {
		a := m.sp()                   // 0
		b := m.num(100)               // 1
		d := m.add(a, b)              // 2
		m.store(d, 1)                 // 3
		m.store(b, 2)                 // 4: not known to be near sp
		v := m.load(a)                // 5
		m.load(v)                     // 6: not known
		m.Put(4, m.sub(d, m.num(40))) // 7, 8, 9
		m.Add(ir.Op{Kind: ir.Lx, W: 4, A: d})
		m.Add(ir.Op{Kind: ir.Sx, W: 4, A: d, B: d})
		m.Add(ir.Op{Kind: ir.Fence, F: ir.Full})
		m.Add(ir.Op{Kind: ir.Trap, N: 2, A: d})
		m.Add(ir.Op{Kind: ir.Skip, N: 2, A: d})
		m.Add(ir.Op{Kind: ir.Store, W: 8, A: a, B: d, Ord: ir.Strong}) // 15
		m.Add(ir.Op{Kind: ir.Store, W: 4, A: b, B: a})                 // 16: sp is stored, not its address used
		m.Add(ir.Op{Kind: ir.Load, W: 2, A: m.sp(), Ord: ir.Strong})   // 17, 18
	})
	one := []span.Access{{Op: 3, Off: 100, W: 1}, {Op: 5, W: 8}, {Op: 15, W: 8}, {Op: 18, Off: 60, W: 2}}
	if got := span.Find(c); !ir.May(c) || !slices.Equal(got, one) {
		t.Errorf("%+v", got)
	}
	// What is known of cell 4 goes on to the next code; what is known of steps does not.
	want := slices.Clone(one)
	for k := 1; k < 3; k++ {
		for _, a := range one {
			want = append(want, span.Access{Code: k, Op: a.Op, Off: a.Off + 60*int64(k), W: a.W})
		}
	}
	if got := span.Find(c, c, c); !slices.Equal(got, want) {
		t.Errorf("%+v", got)
	}
	lost := made(func(m *maker) { m.Put(4, m.Get(5)); m.load(m.Get(4)) })
	if got := span.Find(c, lost, c); !slices.Equal(got, one) {
		t.Errorf("%+v", got)
	}
	empty := made(func(*maker) {})
	if got := span.Find(empty, c); len(got) != 4 || got[3] != (span.Access{Code: 1, Op: 18, Off: 60, W: 2}) {
		t.Errorf("%+v", got)
	}
	if got := span.Find(); len(got) != 0 {
		t.Errorf("%+v", got)
	}
}

// P16.1: none if one of the codes is not valid.
func TestNotValid(t *testing.T) {
	good := made(func(m *maker) { m.load(m.sp()) })
	for _, bad := range []ir.Code{{}, made(func(m *maker) { m.load(5) }), made(func(m *maker) { m.Get(19) }), made(func(m *maker) { m.Add(ir.Op{Kind: ir.Load, W: 3, A: m.sp()}) }),
		made(func(m *maker) { m.Add(ir.Op{Kind: math.MinInt, A: math.MaxInt, B: -1}) }),
		made(func(m *maker) {
			for range 251 {
				m.Get(4)
			}
		})} {
		for _, l := range [][]ir.Code{{bad}, {bad, good}, {good, bad}, {good, bad, good}} {
			if got := span.Find(l...); len(got) != 0 {
				t.Errorf("%+v", got)
			}
		}
	}
	most := made(func(m *maker) {
		for range 249 {
			m.Get(4)
		}
		m.load(248)
	})
	if got := span.Find(most, good); !slices.Equal(got, []span.Access{{Op: 249, W: 8}, {Code: 1, Op: 1, W: 8}}) {
		t.Errorf("%+v", got)
	}
}

// lifted are the codes of instructions.
func lifted(t *testing.T, l ...xinst.Inst) []ir.Code {
	t.Helper()
	codes, e := lift.All(0, l...)
	if e != api.OK {
		t.Fatal(e)
	}
	return codes
}

// The document's example.
func TestExample(t *testing.T) {
	got := span.Find(lifted(t, xinst.Inst{Op: xinst.Push, W: 8, A: xinst.R(0)})...)
	if len(got) != 1 || got[0].Code != 0 || got[0].Off != -8 || got[0].W != 8 {
		t.Fatalf("%+v", got)
	}
	s, ok := span.Over(got...)
	if !ok || s != (span.Span{Lo: -8}) || !s.Within(128, 64, 64) || s.Within(64, 64, 64) {
		t.Error(s, ok)
	}
}

// P16.1: accesses of instructions in a row.
func TestLifted(t *testing.T) {
	m := func(base int, disp int64) xinst.Opd { return xinst.M(base, -1, 1, disp) }
	l := []xinst.Inst{
		{Op: xinst.Push, W: 8, A: xinst.R(5)},                        // 0: stores at -8
		{Op: xinst.Mov, W: 8, A: xinst.R(5), B: xinst.R(4)},          // 1
		{Op: xinst.Sub, W: 8, A: xinst.R(4), B: xinst.I(), Imm: 32},  // 2: sp - 40
		{Op: xinst.Mov, W: 4, A: m(4, 8), B: xinst.R(1)},             // 3: stores at -32
		{Op: xinst.Mov, W: 4, A: m(5, 8), B: xinst.R(1)},             // 4: not known
		{Op: xinst.Add, W: 2, A: m(4, 0), B: xinst.R(1)},             // 5: loads and stores at -40
		{Op: xinst.Call, W: 8},                                       // 6: stores at -48
		{Op: xinst.Pop, W: 8, A: xinst.R(2)},                         // 7: loads at -48
		{Op: xinst.Inc, W: 8, A: m(4, 16), Lock: true},               // 8: exclusive
		{Op: xinst.Mov, W: 1, A: xinst.R(2), B: xinst.M(4, 1, 1, 0)}, // 9: not known
		{Op: xinst.Lea, W: 8, A: xinst.R(4), B: m(4, 24)},            // 10: sp - 16
		{Op: xinst.Push, W: 8, A: m(4, 1)},                           // 11: loads at -15, stores at -24
		{Op: xinst.And, W: 8, A: xinst.R(4), B: xinst.I(), Imm: -16}, // 12: not known any more
		{Op: xinst.Pop, W: 8, A: xinst.R(3)},                         // 13
	}
	want := []span.Access{{Code: 0, Off: -8, W: 8}, {Code: 3, Off: -32, W: 4}, {Code: 5, Off: -40, W: 2}, {Code: 5, Off: -40, W: 2}, {Code: 6, Off: -48, W: 8}, {Code: 7, Off: -48, W: 8},
		{Code: 11, Off: -15, W: 8}, {Code: 11, Off: -24, W: 8}}
	codes := lifted(t, l...)
	got := span.Find(codes...)
	for k := range got {
		if o := codes[got[k].Code].Ops[got[k].Op]; o.W != got[k].W || o.Kind != ir.Load && o.Kind != ir.Store {
			t.Errorf("%d: %+v", k, o)
		}
		got[k].Op = 0
	}
	if !slices.Equal(got, want) {
		t.Errorf("%+v", got)
	}
}

// P16.2: how far accesses reach.
func TestOver(t *testing.T) {
	for _, x := range []struct {
		l    []span.Access
		want span.Span
	}{
		{[]span.Access{{Off: -8, W: 8}}, span.Span{Lo: -8}},
		{[]span.Access{{Off: 3, W: 1}}, span.Span{Lo: 3, Hi: 4}},
		{[]span.Access{{Off: -16, W: 8}, {Off: -40, W: 2}}, span.Span{Lo: -40, Hi: -8}},
		{[]span.Access{{Off: -40, W: 2}, {Off: -16, W: 8}}, span.Span{Lo: -40, Hi: -8}},
		{[]span.Access{{Off: 0, W: 8}, {Off: 4, W: 1}}, span.Span{Hi: 8}},
		{[]span.Access{{Off: 4, W: 1}, {Off: 0, W: 8}, {Off: 2, W: 4}}, span.Span{Hi: 8}},
		{[]span.Access{{Off: 5, W: 1}, {Off: 5, W: 8}, {Off: 5, W: 4}}, span.Span{Lo: 5, Hi: 13}},
		{[]span.Access{{Off: far, W: 8}, {Off: -far, W: 8}}, span.Span{Lo: -far, Hi: far + 8}},
		{[]span.Access{{Code: 9, Op: 7, Off: 1, W: 2}, {Code: -1, Op: -2, Off: 3, W: 4}}, span.Span{Lo: 1, Hi: 7}},
	} {
		if got, ok := span.Over(x.l...); !ok || got != x.want {
			t.Errorf("%+v: %+v %v", x.l, got, ok)
		}
	}
	if got, ok := span.Over(); ok || got != (span.Span{}) {
		t.Error("none", got, ok)
	}
	for _, off := range []int64{math.MinInt64, -1, 0, math.MaxInt64} {
		for _, w := range []int{math.MinInt, -1, 0, math.MaxInt} {
			if got, ok := span.Over(span.Access{Off: off, W: w}); !ok || got.Lo != off || got.Hi != off+int64(w) {
				t.Error("extremes", off, w, got, ok)
			}
		}
	}
}

// P16.2: a span at and beyond the ends of a stack.
func TestWithin(t *testing.T) {
	type s = span.Span
	for _, x := range []struct {
		s            span.Span
		sp, lo, size uint64
		want         bool
	}{
		{s{-8, 0}, 128, 64, 64, true}, {s{-8, 0}, 129, 64, 64, false}, {s{-8, 0}, 72, 64, 64, true}, {s{-8, 0}, 71, 64, 64, false}, {s{-8, 0}, 64, 64, 64, false},
		{s{0, 8}, 64, 64, 64, true}, {s{0, 8}, 63, 64, 64, false}, {s{0, 8}, 120, 64, 64, true}, {s{0, 8}, 121, 64, 64, false}, {s{0, 8}, 128, 64, 64, false},
		{s{-32, 32}, 96, 64, 64, true}, {s{-32, 32}, 95, 64, 64, false}, {s{-32, 32}, 97, 64, 64, false}, {s{-32, 33}, 96, 64, 64, false}, {s{-33, 32}, 96, 64, 64, false},
		{s{-8, 0}, 128, 64, 8, false}, {s{-8, 0}, 72, 64, 8, true}, {s{-8, 0}, 72, 64, 7, false}, {s{-8, 0}, 72, 64, 0, false},
		{s{16, 24}, 48, 64, 64, true}, {s{16, 24}, 47, 64, 64, false}, {s{-80, -72}, 200, 64, 64, true}, {s{-80, -72}, 201, 64, 64, false},
		// No stack:
		{s{-8, 0}, 0, 0, 0, false}, {s{0, 1}, 0, 0, 0, false}, {s{}, 0, 0, 0, true}, {s{}, 5, 5, 0, true}, {s{}, 6, 5, 0, false}, {s{}, 6, 5, 1, true}, {s{}, 7, 5, 1, false},
		// Round the end:
		{s{-8, 0}, 4, all - 15, 64, true}, {s{0, 8}, all - 3, all - 15, 64, true}, {s{0, 8}, all - 3, all - 15, 19, false}, {s{0, 8}, all - 3, all - 15, 20, true},
		{s{-8, 0}, 4, 0, 64, false}, {s{-8, 0}, 0, 64, 64, false}, {s{-8, 0}, 0, 0, all, false}, {s{-8, 0}, 8, 0, all, true}, {s{8, 16}, all - 7, 0, 64, true},
		// Any numbers:
		{s{math.MinInt64, math.MaxInt64}, 1 << 63, 0, all, true}, {s{math.MinInt64, math.MaxInt64}, 1 << 63, 0, all - 1, false}, {s{math.MinInt64, math.MaxInt64}, 1<<63 - 1, 0, all, false},
		{s{5, 3}, 64, 64, 64, false}, {s{math.MaxInt64, math.MinInt64}, 0, 0, 0, false},
	} {
		if got := x.s.Within(x.sp, x.lo, x.size); got != x.want {
			t.Errorf("%+v: %v", x, got)
		}
	}
}

// P16.2: spans of a few bytes, held against each of their addresses.
func TestWithinAddresses(t *testing.T) {
	for _, lo := range []uint64{0, 5, 1 << 47, all - 4} {
		for size := range uint64(9) {
			for from := int64(-4); from <= 4; from++ {
				for to := from + 1; to <= 5; to++ {
					for away := -8; away < 16; away++ {
						sp := lo + uint64(away)
						want := true
						for off := from; off < to; off++ {
							in := false
							for k := range size {
								in = in || lo+k == sp+uint64(off)
							}
							want = want && in
						}
						if got := (span.Span{Lo: from, Hi: to}).Within(sp, lo, size); got != want {
							t.Fatal(from, to, sp, lo, size, got)
						}
					}
				}
			}
		}
	}
}

// No argument is changed, and no result shares memory with another one.
func TestApart(t *testing.T) {
	c := made(func(m *maker) { m.load(m.sp()); m.store(m.add(m.sp(), m.num(8)), 4) })
	kept := slices.Clone(c.Ops)
	got := span.Find(c, c)
	want := slices.Clone(got)
	if span.Over(got...); !slices.Equal(got, want) || !slices.Equal(c.Ops, kept) {
		t.Error("changed", got, c)
	}
	clear(append(got, span.Access{})[:len(got)])
	clear(got)
	if again := span.Find(c, c); !slices.Equal(again, want) {
		t.Error("shared", again)
	}
}
