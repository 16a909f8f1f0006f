package live_test

import (
	"math"
	"slices"
	"strings"
	"testing"

	"calque/api"
	"calque/ir"
	"calque/lift"
	"calque/live"
	"calque/xinst"
)

const all = math.MaxUint64

var r0, r1, r3, imm = xinst.R(0), xinst.R(1), xinst.R(3), xinst.I()

// The numbers that the document gives to the flags.
func TestNumbers(t *testing.T) {
	if live.C != 1 || live.O != 2 || live.Res != 4 || live.All != 7 {
		t.Error(live.C, live.O, live.Res, live.All)
	}
}

// code is steps with an end that goes to 9.
func code(ops ...ir.Op) ir.Code {
	return ir.Code{At: 5, Next: 9, Ops: ops, End: ir.End{Kind: ir.Goto, To: 9}}
}

// Steps of which codes are made. The values that are put, asked or left are those of step 0.
var (
	seven = ir.Op{Kind: ir.Const, N: 7}
	trap  = ir.Op{Kind: ir.Trap, N: 2}
	skip  = ir.Op{Kind: ir.Skip, N: 9}
	load  = ir.Op{Kind: ir.Load, W: 8}
)

func get(cell uint64) ir.Op { return ir.Op{Kind: ir.Get, N: cell} }
func put(cell uint64) ir.Op { return ir.Op{Kind: ir.Put, N: cell} }

// words is the text of code's steps.
func words(c ir.Code) string { return strings.Join(ir.Show(c), "; ") }

// same reports whether codes are equal.
func same(c, d ir.Code) bool {
	return c.At == d.At && c.Next == d.Next && c.End == d.End && slices.Equal(c.Ops, d.Ops)
}

// P15.1: what code reads and puts.
func TestReadsPuts(t *testing.T) {
	for _, x := range []struct {
		what        string
		l           []ir.Op
		reads, puts live.Set
	}{
		{"no step", nil, 0, 0},
		{"registers", []ir.Op{seven, get(0), get(15), put(0), put(15)}, 0, 0},
		{"reads C", []ir.Op{get(16)}, 1, 0},
		{"reads O", []ir.Op{get(17)}, 2, 0},
		{"reads Res", []ir.Op{get(18)}, 4, 0},
		{"reads all", []ir.Op{get(18), get(17), get(16), get(3)}, 7, 0},
		{"puts C", []ir.Op{seven, put(16)}, 0, 1},
		{"puts O", []ir.Op{seven, put(17)}, 0, 2},
		{"puts Res", []ir.Op{seven, put(18)}, 0, 4},
		{"puts all", []ir.Op{seven, put(16), put(17), put(18), put(17)}, 0, 7},
		{"reads, then puts", []ir.Op{get(16), put(16)}, 1, 1},
		{"puts, then reads", []ir.Op{seven, put(16), get(16)}, 0, 1},
		{"reads on both sides", []ir.Op{get(16), put(16), get(16)}, 1, 1},
		{"puts one, reads another", []ir.Op{seven, put(16), get(17), get(18), put(18)}, 6, 5},
		{"a Skip before", []ir.Op{seven, skip, put(16)}, 0, 0},
		{"a Skip behind", []ir.Op{seven, put(16), skip}, 0, 1},
		{"a Skip between", []ir.Op{seven, put(16), skip, put(17), put(16)}, 0, 1},
		{"put behind a Skip, then read", []ir.Op{seven, skip, put(16), get(16)}, 0, 0},
		{"read behind a Skip", []ir.Op{seven, skip, get(16), put(16)}, 1, 0},
		{"a Trap before", []ir.Op{seven, trap, put(16)}, 0, 1},
		{"an access before", []ir.Op{seven, load, put(17)}, 0, 2},
		{"numbers like those of flags", []ir.Op{{Kind: ir.Const, N: 16}, {Kind: ir.Skip, N: 17}, {Kind: ir.Const, N: 18}}, 0, 0},
		{"not valid", []ir.Op{seven, put(16), get(19)}, 7, 0},
		{"not valid, of no flags", []ir.Op{{Kind: 99}}, 7, 0},
	} {
		c := code(x.l...)
		if reads, puts := live.Reads(c), live.Puts(c); reads != x.reads || puts != x.puts {
			t.Errorf("%s: %d, %d; want %d, %d", x.what, reads, puts, x.reads, x.puts)
		}
	}
	if reads, puts := live.Reads(ir.Code{}), live.Puts(ir.Code{}); reads != live.All || puts != 0 {
		t.Error("no code", reads, puts)
	}
}

// P15.1: a Sys asks for all flags, whatever uses what it gets.
func TestReadsLifted(t *testing.T) {
	for _, x := range []struct {
		i           xinst.Inst
		reads, puts live.Set
	}{
		{xinst.Inst{Op: xinst.Add, W: 8, A: r0, B: r1}, 0, 7}, {xinst.Inst{Op: xinst.Adc, W: 1, A: r0, B: xinst.M(3, -1, 1, 0)}, 1, 7},
		{xinst.Inst{Op: xinst.Inc, W: 4, A: r0}, 0, 6}, {xinst.Inst{Op: xinst.Mov, W: 4, A: r0, B: r1}, 0, 0},
		{xinst.Inst{Op: xinst.Jcc, W: 8, Cc: 0}, 2, 0}, {xinst.Inst{Op: xinst.Jcc, W: 8, Cc: 2}, 1, 0}, {xinst.Inst{Op: xinst.Jcc, W: 8, Cc: 4}, 4, 0},
		{xinst.Inst{Op: xinst.Set, W: 1, A: r0, Cc: 7}, 5, 0}, {xinst.Inst{Op: xinst.Cmov, W: 2, A: r0, B: r1, Cc: 12}, 6, 0},
		{xinst.Inst{Op: xinst.Sys, W: 8}, 7, 0}, {xinst.Inst{Op: xinst.Stos, W: 8, Rep: true}, 0, 0},
		{xinst.Inst{Op: xinst.Shl, W: 8, A: r0, B: imm, Imm: 3}, 0, 7}, {xinst.Inst{Op: xinst.Rol, W: 8, A: r0, B: imm, Imm: 3}, 0, 3},
	} {
		c, _ := lift.Lift(x.i, 0)
		if reads, puts := live.Reads(c), live.Puts(c); reads != x.reads || puts != x.puts {
			t.Errorf("%s: %d, %d; want %d, %d", xinst.Show(x.i), reads, puts, x.reads, x.puts)
		}
	}
}

// P15.2: what is left, by hand.
func TestClean(t *testing.T) {
	alu := func(a, b int) ir.Op { return ir.Op{Kind: ir.Alu, F: ir.Add, A: a, B: b} }
	for _, x := range []struct {
		what string
		l    []ir.Op
		want string
	}{
		{"no step", nil, ""},
		{"nothing is used", []ir.Op{seven, get(3), alu(0, 1), {Kind: ir.Ext, W: 2, A: 2}, {Kind: ir.Sel, A: 1, B: 2, C: 3}}, ""},
		{"all is used", []ir.Op{seven, get(3), alu(0, 1), {Kind: ir.Put, N: 3, A: 2}}, "v0 = const 7; v1 = get 3; v2 = add v0 v1; put 3 v2"},
		{"the first step is not used", []ir.Op{seven, get(3), get(4), {Kind: ir.Put, N: 5, A: 2}}, "v0 = get 4; put 5 v0"},
		{"numbers of steps behind", []ir.Op{seven, get(3), seven, get(4), {Kind: ir.Sel, A: 3, B: 1, C: 1}, {Kind: ir.Put, N: 5, A: 4}},
			"v0 = get 3; v1 = get 4; v2 = sel v1 v0 v0; put 5 v2"},
		{"what only unused steps use", []ir.Op{get(1), get(2), alu(0, 1), alu(2, 2), alu(1, 1), {Kind: ir.Put, N: 5, A: 4}}, "v0 = get 2; v1 = add v0 v0; put 5 v1"},
		{"steps that are not pure", []ir.Op{seven, get(16), load, {Kind: ir.Fence, F: 3}, {Kind: ir.Store, W: 1}, trap, skip, put(16)},
			"v0 = const 7; v1 = load.8 v0; fence 3; store.1 v0 v0; trap 2 v0; skip 9 v0; put 16 v0"},
		{"an exclusive pair", []ir.Op{get(1), seven, {Kind: ir.Lx, W: 4, A: 1}, get(2), get(3), alu(2, 4), {Kind: ir.Sx, W: 4, A: 1, B: 5}},
			"v0 = const 7; v1 = lx.4 v0; v2 = get 3; v3 = add v1 v2; sx.4 v0 v3"},
		{"all fields stay", []ir.Op{get(1), seven, {Kind: ir.Load, W: 2, A: 1, Ord: 1}, {Kind: ir.Ext, W: 1, A: 2, Signed: true}, {Kind: ir.Store, W: 8, A: 3, B: 2, Ord: 1}},
			"v0 = const 7; v1 = load.2 v0 !; v2 = ext.1s v1; store.8 v2 v1 !"},
	} {
		c := code(x.l...)
		got := live.Clean(c)
		if !ir.May(got) || words(got) != x.want || got.At != 5 || got.Next != 9 || got.End != c.End {
			t.Errorf("%s: %+v", x.what, got)
		}
	}
}

// P15.2: what the end uses stays. The code of a Stop names no step.
func TestCleanEnds(t *testing.T) {
	l := []ir.Op{seven, get(1), get(2), get(3), get(4)}
	for _, x := range []struct {
		e, want ir.End
		text    string
	}{
		{ir.End{Kind: ir.Goto, To: 3}, ir.End{Kind: ir.Goto, To: 3}, ""},
		{ir.End{Kind: ir.Sys, To: 3}, ir.End{Kind: ir.Sys, To: 3}, ""},
		{ir.End{Kind: ir.If, A: 3, To: 8, Else: 7}, ir.End{Kind: ir.If, To: 8, Else: 7}, "v0 = get 3"},
		{ir.End{Kind: ir.Jump, A: 4}, ir.End{Kind: ir.Jump}, "v0 = get 4"},
		{ir.End{Kind: ir.Jump, A: 0}, ir.End{Kind: ir.Jump}, "v0 = const 7"},
		{ir.End{Kind: ir.Stop, A: 3}, ir.End{Kind: ir.Stop, A: 3}, ""},
		{ir.End{Kind: ir.Stop, A: 6}, ir.End{Kind: ir.Stop, A: 6}, ""},
	} {
		c := code(l...)
		c.End = x.e
		if got := live.Clean(c); words(got) != x.text || got.End != x.want {
			t.Errorf("%+v: %+v", x.e, got)
		}
	}
	c := code(append(l, ir.Op{Kind: ir.Put, N: 9, A: 2})...)
	c.End = ir.End{Kind: ir.If, A: 4}
	if got := live.Clean(c); words(got) != "v0 = get 2; v1 = get 4; put 9 v0" || got.A != 1 {
		t.Errorf("%+v", got)
	}
}

// spoilt are codes that are not valid, with steps that nobody uses.
func spoilt() []ir.Code {
	l := []ir.Code{{}, code(seven, seven, get(19)), code(seven, ir.Op{Kind: ir.Put, N: 16, A: 1}), code(ir.Op{Kind: math.MinInt, A: math.MaxInt, B: -1, C: math.MinInt}),
		code(seven, put(16), ir.Op{Kind: ir.Lx, W: 8}), code(slices.Repeat([]ir.Op{seven}, 251)...)}
	for _, e := range []ir.End{{}, {Kind: ir.If, A: 1}, {Kind: ir.Jump, A: -1}, {Kind: ir.Jump, A: math.MaxInt}, {Kind: ir.Stop}, {Kind: math.MaxInt, A: math.MinInt}, {Kind: ir.Goto, A: 1}} {
		c := code(seven)
		c.End = e
		l = append(l, c)
	}
	return l
}

// P15.1, P15.2, P15.3: code that is not valid stays as it is, and may read all.
func TestNotValid(t *testing.T) {
	for k, c := range spoilt() {
		if ir.May(c) || live.Reads(c) != live.All || live.Puts(c) != 0 || !same(live.Clean(c), c) {
			t.Errorf("%d: %d %d", k, live.Reads(c), live.Puts(c))
		}
		before, behind := code(seven, put(16), put(17), put(18), put(0)), code(seven, put(16))
		got := live.Trim(0, before, c, behind)
		if len(got) != 3 || !same(got[0], before) || !same(got[1], c) || words(got[2]) != "" {
			t.Errorf("%d: %+v", k, got)
		}
	}
}

// The document's example.
func TestExample(t *testing.T) {
	l, _ := lift.All(0, xinst.Inst{Op: xinst.Add, W: 8, A: r0, B: r1, Len: 3}, xinst.Inst{Op: xinst.Sub, W: 8, A: r0, B: r1, Len: 3})
	flags := func(c ir.Code) []uint64 {
		var puts []uint64
		for _, o := range c.Ops {
			if o.Kind == ir.Put && o.N >= ir.C {
				puts = append(puts, o.N)
			}
		}
		slices.Sort(puts)
		return puts
	}
	for out := range live.Set(8) {
		got := live.Trim(out, l...)
		var want []uint64
		for k := range uint64(3) {
			if out>>k&1 == 1 {
				want = append(want, ir.C+k)
			}
		}
		if len(got) != 2 || len(flags(got[0])) != 0 || !slices.Equal(flags(got[1]), want) {
			t.Errorf("%d: %q %q", out, ir.Show(got[0]), ir.Show(got[1]))
		}
	}
	got := live.Trim(0, l...)
	if words(got[0]) != "v0 = get 0; v1 = get 1; v2 = add v0 v1; put 0 v2" || words(got[1]) != "v0 = get 0; v1 = get 1; v2 = sub v0 v1; put 0 v2" {
		t.Errorf("%q %q", ir.Show(got[0]), ir.Show(got[1]))
	}
}

// P15.3: which flags stay, by hand. Each code is the letters of its steps: small ones get C, O, Res and put what they get, great ones put them, = puts register 1, ? may skip, ! may trap.
func TestTrim(t *testing.T) {
	for _, x := range []struct {
		out        live.Set
		text, want string
	}{
		{0, "", ""}, {7, "", ""},
		{0, "COR", ""}, {7, "COR", "COR"}, {1, "COR", "C"}, {2, "COR", "O"}, {4, "COR", "R"}, {1 << 3, "COR", ""}, {math.MaxUint32, "COR", "COR"},
		{7, "COR CO", "R CO"}, {7, "COR - CO", "R - CO"}, {0, "COR -", " -"},
		{0, "COR c", "C c"}, {0, "COR - o", "O - o"}, {0, "COR - or", "OR - or"}, {0, "COR COR c", " C c"}, {0, "C c C c", "C c C c"},
		{0, "c C", "c "}, {0, "C cC", "C c"}, {1, "C cC", "C cC"}, {1, "C Cc", " Cc"}, {0, "C Cc", " Cc"},
		// Two of the same flag in one code, what is read between them, and what may leave between them:
		{1, "CC", "C"}, {0, "CC", ""}, {1, "CcC", "CcC"}, {0, "CcC", "Cc"}, {1, "C?C", "C?C"}, {1, "CO?C", "C?C"}, {0, "C?C", "?"}, {1, "C!-", "C!-"},
		// A Put behind a Skip may not come to pass:
		{1, "C ?C", "C ?C"}, {1, "C C?", " C?"}, {0, "C ?C", " ?"}, {0, "C ?C c", "C ?C c"}, {1, "C !C", " !C"}, {0, "C !c", "C !c"}, {0, "C ?c", "C ?c"},
	} {
		var l []ir.Code
		for _, s := range strings.Fields(x.text) {
			l = append(l, lettered(s))
		}
		var got []string
		for _, c := range live.Trim(x.out, l...) {
			got = append(got, letters(t, c))
		}
		want := strings.Split(x.want, " ")
		if x.text == "" {
			want = nil
		}
		if !slices.Equal(got, want) {
			t.Errorf("%d %q: %q", x.out, x.text, got)
		}
	}
}

// lettered is code of letters.
func lettered(s string) ir.Code {
	m := &ir.Maker{Code: code()}
	for _, r := range s {
		switch cell := strings.IndexRune("corCOR", r); {
		case r == '-':
			m.Put(1, m.Get(2))
		case r == '?':
			m.Add(ir.Op{Kind: ir.Skip, N: 9, A: m.Get(3)})
		case r == '!':
			m.Add(ir.Op{Kind: ir.Trap, N: 2, A: m.Get(3)})
		case cell < 3:
			m.Put(4, m.Get(16+cell))
		default:
			m.Put(16+cell-3, m.Get(5))
		}
	}
	return m.Code
}

// letters is the letters of code.
func letters(t *testing.T, c ir.Code) string {
	s := ""
	if !ir.May(c) || !same(code(), ir.Code{At: c.At, Next: c.Next, End: c.End}) {
		t.Errorf("%+v", c)
	}
	for _, o := range c.Ops {
		switch {
		case o.Kind == ir.Skip:
			s += "?"
		case o.Kind == ir.Trap:
			s += "!"
		case o.Kind == ir.Put && o.N == 1:
			s += "-"
		case o.Kind == ir.Get && o.N >= 16:
			s += "cor"[o.N-16 : o.N-15]
		case o.Kind == ir.Put && o.N >= 16:
			s += "COR"[o.N-16 : o.N-15]
		}
	}
	return s
}

// P15.3: what is read for flags that are left out is left out too, so that what it asks for does not matter either.
func TestTrimChain(t *testing.T) {
	l, e := lift.All(0,
		xinst.Inst{Op: xinst.Cmp, W: 8, A: r0, B: r1, Len: 3},
		xinst.Inst{Op: xinst.Rol, W: 8, A: r0, B: r1, Len: 3}, // keeps flags if register 1 says 0
		xinst.Inst{Op: xinst.Adc, W: 8, A: r3, B: r1, Len: 3},
		xinst.Inst{Op: xinst.Sar, W: 8, A: r0, B: r1, Len: 3})
	if e != api.OK {
		t.Fatal(e)
	}
	want := [][2]live.Set{{0, 1}, {1, 1}, {1, 0}, {0, 0}}
	for k, c := range live.Trim(0, l...) {
		if reads, puts := live.Reads(c), live.Puts(c); reads != want[k][0] || puts != want[k][1] || len(c.Ops) >= len(l[k].Ops) {
			t.Errorf("%d: %d %d %q", k, reads, puts, ir.Show(c))
		}
	}
	want = [][2]live.Set{{0, 1}, {1, 1}, {1, 7}, {7, 7}}
	for k, c := range live.Trim(7, l...) {
		if reads, puts := live.Reads(c), live.Puts(c); reads != want[k][0] || puts != want[k][1] {
			t.Errorf("%d: %d %d %q", k, reads, puts, ir.Show(c))
		}
	}
}

// No result shares memory with an argument or another one, and no argument is changed.
func TestApart(t *testing.T) {
	c := code(seven, get(3), put(16), ir.Op{Kind: ir.Put, N: 2, A: 1})
	kept := slices.Clone(c.Ops)
	bad := code(seven, get(99))
	for out := range live.Set(8) {
		l := live.Trim(out, c, bad, c)
		l = append(l, live.Clean(c), live.Clean(bad))
		var want []ir.Code
		for _, x := range l {
			x.Ops = slices.Clone(x.Ops)
			want = append(want, x)
		}
		for k := range l {
			x := append(l[k].Ops, ir.Op{Kind: 77})
			clear(x)
			clear(l[k].Ops)
			for n := k + 1; n < len(l); n++ {
				if !same(l[n], want[n]) {
					t.Error(out, k, n)
				}
			}
		}
		if !slices.Equal(c.Ops, kept) || bad.Ops[1].N != 99 || bad.Ops[0] != seven {
			t.Fatal("changed", c, bad)
		}
	}
	list := []ir.Code{c}
	got := live.Trim(7, list...)
	list[0] = ir.Code{}
	if len(got) != 1 || got[0].At != 5 {
		t.Error("kept", got)
	}
}
