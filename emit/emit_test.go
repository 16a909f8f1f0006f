package emit_test

import (
	"math"
	"slices"
	"strings"
	"testing"

	"calque/a64"
	"calque/api"
	"calque/emit"
	"calque/ir"
	"calque/lift"
	"calque/live"
	"calque/order"
	"calque/sel"
	"calque/span"
	"calque/xinst"
)

const all = math.MaxUint64

// steps is code of steps, from 100 on, ahead of 103, with an end.
func steps(e ir.End, l ...ir.Op) ir.Code {
	return ir.Code{At: 100, Next: 103, Ops: l, End: e}
}

// on is the end that goes on behind the code.
var on = ir.End{Kind: ir.Goto, To: 103}

// last is code at 103 that ends.
func last() ir.Code {
	return ir.Code{At: 103, Next: 104, End: ir.End{Kind: ir.Stop, A: 1}}
}

// must are the lines of codes that are valid, as texts.
func must(t *testing.T, l ...ir.Code) string {
	t.Helper()
	lines, e := emit.Codes(l...)
	if e != api.OK {
		t.Fatal(e, l)
	}
	return text(lines)
}

// lifted are the codes of instructions from 100 on, trimmed.
func lifted(t *testing.T, l ...xinst.Inst) []ir.Code {
	t.Helper()
	c, e := lift.All(100, l...)
	if e != api.OK {
		t.Fatal(e, l)
	}
	return live.Trim(live.All, c...)
}

// join is texts of lines.
func join(l ...string) string { return strings.Join(l, "\n") }

// The numbers that the document names.
func TestNumbers(t *testing.T) {
	if emit.None != 0 || emit.Block != 1 || emit.Find != 2 || emit.Room != 2048 {
		t.Error(emit.None, emit.Block, emit.Find, emit.Room)
	}
}

// P24.3.
func TestReal(t *testing.T) {
	for _, x := range []struct {
		l    emit.Line
		want bool
	}{
		{emit.Line{}, true}, {emit.Line{Inst: a64.Inst{Op: a64.Nop, W: 8}}, true}, {emit.Line{Ref: emit.Find, To: 5, Ver: 1}, true},
		{emit.Line{Label: true}, false}, {emit.Line{Bound: true}, false}, {emit.Line{Label: true, Bound: true}, false},
		{emit.Line{Label: true, Inst: a64.Inst{Op: a64.Nop, W: 8}}, false},
	} {
		if got := x.l.Real(); got != x.want {
			t.Errorf("%+v: %v", x.l, got)
		}
	}
	// What the instruction tells, its line tells.
	if l := (emit.Line{Inst: a64.Inst{Op: a64.B, W: 8}}); !l.Jumps() || !l.Ends() {
		t.Error("B")
	}
}

// P24.1: what instructions become.
func TestLifted(t *testing.T) {
	own := xinst.M(3, xinst.No, 1, 0)
	for _, x := range []struct {
		i    xinst.Inst
		want string
	}{
		// Example 1.
		{xinst.Inst{Op: xinst.Dec, W: 8, A: xinst.R(0), Len: 3}, join("bound 100.0",
			"orr x19 x31 x0 0", "movz x20 32768 3", "movz x21 1 0", "sub x21 x19 x21 0", "subs x31 x19 x20 0", "csinc x19 x31 x31 1",
			"orr x17 x31 x19 0", "orr x18 x31 x21 0", "orr x0 x31 x21 0", "b 0 -> 103.0")},
		{xinst.Inst{Op: xinst.Push, W: 8, A: xinst.R(0), Len: 1}, join("bound 100.0",
			"orr x19 x31 x0 0", "orr x20 x31 x4 0", "movz x21 8 0", "sub x20 x20 x21 0", "movz x21 47 0", "lsrv x21 x20 x21", "cbz x21 8", "brk 2",
			"str.8 x19 x20 0", "orr x4 x31 x20 0", "b 0 -> 101.0")},
		{xinst.Inst{Op: xinst.Xchg, W: 8, A: xinst.R(0), B: xinst.R(1), Len: 3}, join("bound 100.0",
			"orr x19 x31 x0 0", "orr x20 x31 x1 0", "orr x1 x31 x19 0", "orr x0 x31 x20 0", "b 0 -> 103.0")},
		{xinst.Inst{Op: xinst.Ret, W: 8, Len: 1}, join("bound 100.0",
			"orr x19 x31 x4 0", "movz x20 8 0", "add x20 x19 x20 0", "movz x21 47 0", "lsrv x21 x19 x21", "cbz x21 8", "brk 2",
			"ldr.8 x19 x19 0", "orr x4 x31 x20 0", "orr x30 x31 x19 0", "b 0 -> find")},
		{xinst.Inst{Op: xinst.Xadd, W: 4, A: own, B: xinst.R(1), Lock: true, Len: 4}, join("ldaxr.4 x20 x19", "orr x21 x31 x1 0", "add x22 x20 x21 0")},
		{xinst.Inst{Op: xinst.Sys, W: 8, Len: 2}, join("svc 0", "b 0 -> 102.0")},
		{xinst.Inst{Op: xinst.Ud, W: 8, Len: 2}, join("bound 100.0", "brk 4")},
		{xinst.Inst{Op: xinst.Jmp, W: 8, Imm: 20, Len: 2}, join("bound 100.0", "b 0 -> 122.0")},
		{xinst.Inst{Op: xinst.Jmp, W: 8, A: xinst.R(9), Len: 2}, join("bound 100.0", "orr x19 x31 x9 0", "orr x30 x31 x19 0", "b 0 -> find")},
		{xinst.Inst{Op: xinst.Nop, W: 8, Len: 1}, join("bound 100.0", "b 0 -> 101.0")},
	} {
		if got := must(t, lifted(t, x.i)...); !strings.Contains(got+"\n", x.want+"\n") {
			t.Errorf("%s:\n%s\nnot\n%s", xinst.Show(x.i), got, x.want)
		}
	}
}

// P24.1: where codes continue.
func TestEnds(t *testing.T) {
	get, skip := ir.Op{Kind: ir.Get, N: 9}, func(to uint64) ir.Op { return ir.Op{Kind: ir.Skip, N: to} }
	for _, x := range []struct {
		what string
		c    ir.Code
		want string // behind the Get, if there is one, ahead of the bound of the next code
	}{
		{"Goto the next code", steps(on), ""},
		{"Goto elsewhere", steps(ir.End{Kind: ir.Goto, To: 104}), "b 0 -> 104.0"},
		{"Goto itself", steps(ir.End{Kind: ir.Goto, To: 100}), "b 0 -> 100.0"},
		{"If, else the next code", steps(ir.End{Kind: ir.If, To: 7, Else: 103}, get), "cbnz x19 0 -> 7.0"},
		{"If, else elsewhere", steps(ir.End{Kind: ir.If, To: 7, Else: 8}, get), join("cbnz x19 0 -> 7.0", "b 0 -> 8.0")},
		{"If to the next code", steps(ir.End{Kind: ir.If, To: 103, Else: 8}, get), join("cbnz x19 0 -> 103.0", "b 0 -> 8.0")},
		{"If to the next code in any case", steps(ir.End{Kind: ir.If, To: 103, Else: 103}, get), ""},
		{"If elsewhere in any case", steps(ir.End{Kind: ir.If, To: 8, Else: 8}, get), "b 0 -> 8.0"},
		{"Jump", steps(ir.End{Kind: ir.Jump}, get), join("orr x30 x31 x19 0", "b 0 -> find")},
		{"Sys", steps(ir.End{Kind: ir.Sys, To: 105}), join("svc 0", "b 0 -> 105.0")},
		{"Sys ahead of the next code", steps(ir.End{Kind: ir.Sys, To: 103}), join("svc 0", "b 0 -> 103.0")},
		{"Stop", steps(ir.End{Kind: ir.Stop, A: 6}), "brk 6"},
		{"Trap", steps(on, get, ir.Op{Kind: ir.Trap, N: 3}), join("cbz x19 8", "brk 3")},
		{"Skip elsewhere", steps(on, get, skip(7)), "cbnz x19 0 -> 7.0"},
		{"Skip to the next code", steps(on, get, skip(103), ir.Op{Kind: ir.Fence, F: 1}), join("cbnz x19 8", "dmb 11")},
		{"Skip to the next code, Goto elsewhere", steps(ir.End{Kind: ir.Goto, To: 8}, get, skip(103)), join("cbnz x19 8", "b 0 -> 8.0")},
		{"Skip to Else", steps(ir.End{Kind: ir.If, To: 7, Else: 103}, get, skip(103)), join("cbnz x19 12", "cbz x19 8", "b 0 -> 7.0")},
		{"Skip to the next code, which is not Else", steps(ir.End{Kind: ir.If, To: 103, Else: 8}, get, skip(103)), join("cbnz x19 0 -> 103.0", "cbnz x19 0 -> 103.0", "b 0 -> 8.0")},
		{"Skip to the next code, Jump", steps(ir.End{Kind: ir.Jump}, get, skip(103)), join("cbnz x19 0 -> 103.0", "orr x30 x31 x19 0", "b 0 -> find")},
		{"Skip to the next code, Sys", steps(ir.End{Kind: ir.Sys, To: 103}, get, skip(103)), join("cbnz x19 0 -> 103.0", "svc 0", "b 0 -> 103.0")},
		{"Skip to the next code, Stop", steps(ir.End{Kind: ir.Stop, A: 2}, get, skip(103)), join("cbnz x19 0 -> 103.0", "brk 2")},
		{"three Skips", steps(on, get, skip(7), skip(103), skip(8)), join("cbnz x19 0 -> 7.0", "cbnz x19 12", "cbz x19 8", "b 0 -> 8.0")},
	} {
		first := "bound 100.0"
		if len(x.c.Ops) > 0 {
			first = join(first, "orr x19 x31 x9 0")
		}
		want := strings.ReplaceAll(join(first, x.want, "bound 103.0", "brk 1"), "\n\n", "\n")
		if got := must(t, x.c, last()); got != want {
			t.Errorf("%s:\n%s\nnot\n%s", x.what, got, want)
		}
	}
	// Without a next code, each one ends with a jump.
	if got := must(t, steps(ir.End{Kind: ir.If, To: 7, Else: 103}, get, skip(103))); got != join("bound 100.0", "orr x19 x31 x9 0", "cbnz x19 0 -> 103.0", "cbnz x19 0 -> 7.0", "b 0 -> 103.0") {
		t.Error(got)
	}
	if got := must(t, last(), steps(on)); got != join("bound 103.0", "brk 1", "bound 100.0", "b 0 -> 103.0") {
		t.Error(got)
	}
}

// P24.1: an exclusive store that fails goes back to its load.
func TestExclusive(t *testing.T) {
	l := []ir.Op{{Kind: ir.Get, N: 2}, {Kind: ir.Lx, W: 2}, {Kind: ir.Sx, W: 2, B: 1}}
	if got := must(t, steps(on, l...), last()); got != join("bound 100.0", "orr x19 x31 x2 0", "ldaxr.2 x20 x19", "stlxr.2 x20 x19 x30", "cbnz x30 -8", "bound 103.0", "brk 1") {
		t.Error(got)
	}
	// Nothing needs the number that is read.
	l[2].B = 0
	if got := must(t, steps(on, l...), last()); got != join("bound 100.0", "orr x19 x31 x2 0", "ldaxr.2 x25 x19", "stlxr.2 x19 x19 x30", "cbnz x30 -8", "bound 103.0", "brk 1") {
		t.Error(got)
	}
}

// exclusive is code that adds eight cells, which are changed before, to a number in memory, whose address is made by a step, or a register.
func exclusive(made bool) ir.Code {
	m := &ir.Maker{}
	m.At, m.Next, m.End = 100, 103, on
	var l []int
	for cell := range 8 {
		l = append(l, m.Get(cell))
		m.Put(cell, m.Const(uint64(cell)))
	}
	at := m.Get(9)
	if made {
		at = m.Alu(ir.Add, at, m.Const(1), at)
	}
	v := m.Add(ir.Op{Kind: ir.Lx, W: 8, A: at})
	sum := m.Alu(ir.Add, append(l, v)...)
	m.Add(ir.Op{Kind: ir.Sx, W: 8, A: at, B: sum})
	m.Put(10, v)
	return m.Code
}

// P24.1, P24.4: what an exclusive load is gone back to with is what it was, if more is needed than there are registers.
func TestExclusiveAgain(t *testing.T) {
	d := &dice{4}
	for _, made := range []bool{false, true} {
		c := exclusive(made)
		s := ir.State{}
		for k := range s.Cell {
			s.Cell[k] = 1000 + 3*uint64(k)
		}
		if s.Cell[9] = 1008; made {
			s.Cell[9] = 504
		}
		lines, e := emit.Codes(c)
		if e != api.OK || !strings.Contains(text(lines), " x29 ") {
			t.Fatal(e, text(lines))
		}
		for fails := range 5 {
			x := newThread(d, s)
			left := fails
			x.fails = func() bool { left--; return left >= 0 }
			x.spoil(d)
			l, _, _ := real(lines)
			got := x.run(l, 0, len(l))
			sum, _ := x.m.Load(0, s.Cell[9], 8)
			if made {
				sum, _ = x.m.Load(0, 1009, 8)
			}
			want := x.X[10]
			for k := range 8 {
				want += s.Cell[k]
			}
			if got.ref.To != 103 || x.failed != fails || sum != want {
				t.Errorf("%v, %d fail: %d, not %d; %+v", made, fails, sum, want, got)
			}
		}
	}
}

// P24.1, chapter 23, Registers: each value is in a register of its own from where it is made to where it is needed last, also that of a Get; one that nothing needs takes nothing.
func TestHomes(t *testing.T) {
	get := func(n uint64) ir.Op { return ir.Op{Kind: ir.Get, N: n} }
	add := func(a, b int) ir.Op { return ir.Op{Kind: ir.Alu, F: ir.Add, A: a, B: b} }
	put := func(n uint64, a int) ir.Op { return ir.Op{Kind: ir.Put, N: n, A: a} }
	for _, x := range []struct {
		what string
		l    []ir.Op
		want string
	}{
		{"nothing needs the first one", []ir.Op{{Kind: ir.Const, N: 5}}, ""},
		{"nothing needs the last one", []ir.Op{{Kind: ir.Const, N: 5}, get(3), add(0, 1)}, join("movz x19 5 0", "orr x20 x31 x3 0")},
		{"a load that nothing needs", []ir.Op{get(3), {Kind: ir.Load, W: 4}}, join("orr x19 x31 x3 0", "ldr.4 x25 x19 0")},
		{"a cell that is set to what it is", []ir.Op{get(3), put(3, 0)}, join("orr x19 x31 x3 0", "orr x3 x31 x19 0")},
		{"a cell that is set before its value is needed", []ir.Op{get(3), {Kind: ir.Const}, put(3, 1), put(4, 0)}, join("orr x19 x31 x3 0", "movz x20 0 0", "orr x3 x31 x20 0", "orr x4 x31 x19 0")},
		{"a cell that is not set", []ir.Op{get(3), get(3), add(0, 1), add(2, 0), put(4, 3)}, join("orr x19 x31 x3 0", "orr x20 x31 x3 0", "add x20 x19 x20 0", "add x19 x20 x19 0", "orr x4 x31 x19 0")},
		{"what a cell is set to later", []ir.Op{get(3), add(0, 0), get(4), put(5, 1), put(6, 2)}, join("orr x19 x31 x3 0", "add x19 x19 x19 0", "orr x20 x31 x4 0", "orr x5 x31 x19 0", "orr x6 x31 x20 0")},
		{"what two cells are set to", []ir.Op{get(3), put(4, 0), put(5, 0)}, join("orr x19 x31 x3 0", "orr x4 x31 x19 0", "orr x5 x31 x19 0")},
	} {
		want := strings.ReplaceAll(join("bound 100.0", x.want, "bound 103.0", "brk 1"), "\n\n", "\n")
		got := must(t, steps(on, x.l...), last())
		if got != want {
			t.Errorf("%s:\n%s\nnot\n%s", x.what, got, want)
		}
	}
}

// many is code with as many values, made by one step each, of which every one is needed behind the last.
func many(most int, made func(n int) ir.Op) ir.Code {
	m := &ir.Maker{}
	m.At, m.Next, m.End = 100, 103, on
	var l []int
	for n := range most {
		l = append(l, m.Add(made(n)))
	}
	for k, v := range l {
		m.Add(ir.Op{Kind: ir.Store, W: 1, A: v, B: l[len(l)-1-k]})
	}
	return m.Code
}

// P24.1, chapter 23, Registers: six values live in registers, and each further one in Room, whatever makes them.
func TestRegisters(t *testing.T) {
	for what, made := range map[string]func(n int) ir.Op{
		"numbers":        func(n int) ir.Op { return ir.Op{Kind: ir.Const, N: uint64(n) + 2} },
		"cells":          func(n int) ir.Op { return ir.Op{Kind: ir.Get, N: uint64(n)} },
		"one cell":       func(int) ir.Op { return ir.Op{Kind: ir.Get, N: 7} },
		"cells, numbers": func(n int) ir.Op { return ir.Op{Kind: ir.Const + n%2*(ir.Get-ir.Const), N: uint64(n)} },
	} {
		for most := range 12 {
			want := max(0, most-6)
			if got := strings.Count(must(t, many(most, made)), "str.8 x25 x29 "); got != want {
				t.Errorf("%s, %d values: %d in Room, not %d", what, most, got, want)
			}
		}
	}
}

// P24.1: as many values as there may be are kept in Room, one behind the other.
func TestRoom(t *testing.T) {
	m := &ir.Maker{}
	m.At, m.Next = 100, 103
	for n := range 124 {
		m.Const(uint64(n) << 20)
	}
	v := m.Alu(ir.Add, 123, 122)
	for n := 121; n >= 0; n-- {
		v = m.Alu(ir.Add, v, n)
	}
	m.Const(0)
	m.Alu(ir.Add, v, 0)
	m.Const(0)
	m.End = ir.End{Kind: ir.Jump, A: v}
	if n := len(m.Ops); n != ir.Most {
		t.Fatal(n)
	}
	ends := map[string]int{}
	lines, _ := emit.Codes(m.Code)
	shape(t, []ir.Code{m.Code}, lines)
	check(t, &dice{3}, []ir.Code{m.Code}, lines, ir.State{}, ends)
	if ends["find"] != 1 {
		t.Error(ends)
	}
	for _, l := range lines {
		if l.N == sel.Spill && (l.Op == a64.Str || l.Op == a64.Ldr) && (l.W != 8 || l.Imm%8 != 0 || l.Imm > emit.Room-8) {
			t.Error(show(l))
		}
	}
}

// broken are codes that are not valid.
func broken() []ir.Code {
	long := make([]ir.Op, ir.Most+1)
	for k := range long {
		long[k].Kind = ir.Const
	}
	return []ir.Code{
		{}, steps(ir.End{Kind: 6}), steps(ir.End{Kind: ir.Stop, A: 7}), steps(ir.End{Kind: ir.Jump}), steps(on, ir.Op{}),
		steps(on, ir.Op{Kind: ir.Put}), steps(on, ir.Op{Kind: ir.Const}, ir.Op{Kind: ir.Lx, W: 8}), steps(on, ir.Op{Kind: ir.Get, N: 19}),
		steps(on, ir.Op{Kind: ir.Const}, ir.Op{Kind: ir.Alu, F: 1, A: -1}), steps(ir.End{Kind: ir.If, A: math.MaxInt}), steps(on, long...),
	}
}

// P24.1: wrong inputs.
func TestCodesWrong(t *testing.T) {
	for _, bad := range broken() {
		for _, l := range [][]ir.Code{{bad}, {bad, last()}, {last(), bad}, {last(), bad, last()}} {
			if lines, e := emit.Codes(l...); e != api.ErrArg || len(lines) != 0 {
				t.Errorf("%+v: %d %s", bad, e, text(lines))
			}
		}
	}
	if lines, e := emit.Codes(); e != api.OK || len(lines) != 0 {
		t.Error("no codes", e, text(lines))
	}
}

// blocks are two versions of the codes of a block.
func blocks(t *testing.T) (fast, slow []ir.Code, s span.Span) {
	t.Helper()
	codes := lifted(t,
		xinst.Inst{Op: xinst.Mov, W: 8, A: xinst.R(0), B: xinst.M(3, xinst.No, 1, 0), Len: 3},
		xinst.Inst{Op: xinst.Push, W: 8, A: xinst.R(0), Len: 1},
		xinst.Inst{Op: xinst.Pop, W: 8, A: xinst.R(1), Len: 1})
	own, s, ok := order.Private(codes...)
	if !ok {
		t.Fatal("no private access")
	}
	return order.Mark(order.Acquire, own, codes...), order.Mark(order.Acquire, nil, codes...), s
}

// P24.2: without split, the label and the slow lines.
func TestLines(t *testing.T) {
	fast, slow, s := blocks(t)
	lines, e := emit.Lines(100, fast, slow, s, false)
	if want := join("label 100.0", must(t, slow...)); e != api.OK || text(lines) != want {
		t.Errorf("%d\n%s\nnot\n%s", e, text(lines), want)
	}
	if lines, e = emit.Lines(5, nil, slow, span.Span{}, false); e != api.OK || text(lines) != join("label 5.0", must(t, slow...)) {
		t.Error("no fast ones", e, text(lines))
	}
}

// P24.2: with split, both versions, and what decides between them.
func TestSplit(t *testing.T) {
	fast, slow, s := blocks(t)
	lines, e := emit.Lines(100, fast, slow, s, true)
	quick, _ := emit.Codes(fast...)
	careful, _ := emit.Codes(slow...)
	want := join("label 100.0", "bound 100.0",
		"movz x19 8 0", "subs x20 x28 x19 0", "bcc 3 0 -> 100.1",
		"movn x19 7 0", "add x21 x4 x19 0", "sub x21 x21 x27 0", "subs x31 x20 x21 0", "bcc 3 0 -> 100.1",
		text(quick[1:]), "label 100.1", text(careful[1:]))
	if e != api.OK || text(lines) != want {
		t.Errorf("%d\n%s\nnot\n%s", e, text(lines), want)
	}
	if !strings.Contains(text(quick), "\nstr.8 x19 x20 0\n") || !strings.Contains(text(careful), "\nstlr.8 x19 x20\n") {
		t.Error("the fast version is plain, and the slow one is not")
	}
	// The labels, and what jumps to them, are those of the block, and the bound is that of the first code.
	lines, e = emit.Lines(7, fast, slow, s, true)
	want = strings.NewReplacer("label 100.", "label 7.", "-> 100.1", "-> 7.1").Replace(want)
	if e != api.OK || text(lines) != want {
		t.Errorf("%d\n%s\nnot\n%s", e, text(lines), want)
	}
	// There may be no fast codes; then the slow ones follow in any case.
	lines, e = emit.Lines(100, nil, slow, s, true)
	if got := text(lines); e != api.OK || !strings.HasSuffix(got, join("bcc 3 0 -> 100.1", "label 100.1", text(careful[1:]))) || !strings.HasPrefix(got, join("label 100.0", "bound 100.0", "movz")) {
		t.Error("no fast ones", e, got)
	}
}

// P24.2: wrong inputs, with and without split.
func TestLinesWrong(t *testing.T) {
	fast, slow, s := blocks(t)
	for _, split := range []bool{false, true} {
		for _, bad := range broken() {
			for _, x := range [][2][]ir.Code{{fast, {bad}}, {{bad}, slow}, {fast, append(slices.Clone(slow), bad)}, {append(slices.Clone(fast), bad), slow}, {{bad}, nil}, {{bad}, {bad}}} {
				if lines, e := emit.Lines(100, x[0], x[1], s, split); e != api.ErrArg || len(lines) != 0 {
					t.Errorf("%+v: %d %s", bad, e, text(lines))
				}
			}
		}
		for _, none := range [][]ir.Code{nil, {}} {
			if lines, e := emit.Lines(100, fast, none, s, split); e != api.ErrArg || len(lines) != 0 {
				t.Error("no slow ones", e, text(lines))
			}
			if lines, e := emit.Lines(100, none, none, s, split); e != api.ErrArg || len(lines) != 0 {
				t.Error("none at all", e, text(lines))
			}
		}
	}
}

// decide executes the lines that decide between two versions, and reports whether they go on.
func decide(t *testing.T, d *dice, lines []emit.Line, sp, lo, size uint64) bool {
	t.Helper()
	x := newThread(d, ir.State{})
	x.spoil(d)
	x.X[4], x.X[sel.Lo], x.X[sel.Size] = sp, lo, size
	before, bytes := x.X, x.m.Copy()
	got := x.run(lines, 0, len(lines))
	for r, v := range x.X {
		if v != before[r] && (r < 19 || r > 21) {
			t.Fatal("changed:", r)
		}
	}
	if got.end != api.Runs || !x.m.Same(bytes) || len(x.trace) > 0 {
		t.Fatal(got, x.trace)
	}
	if got.ref.Ref == emit.None {
		return true
	}
	if got.ref.To != 100 || got.ref.Ver != 1 {
		t.Fatal(show(got.ref))
	}
	return false
}

// P24.2: it goes on as Within says, for spans and stacks of any kind, also at and beyond their ends.
func TestWithin(t *testing.T) {
	d := &dice{9}
	_, slow, _ := blocks(t)
	careful, _ := emit.Codes(slow...)
	spans := []span.Span{{Lo: -8}, {}, {Lo: -1 << 20, Hi: 1<<20 + 8}, {Lo: 0x1_2345, Hi: 0x2_3456}, {Lo: -0x1_2345, Hi: 0x6_789A}, {Lo: 8, Hi: 0}, {Lo: math.MinInt64, Hi: math.MaxInt64}, {Lo: math.MaxInt64, Hi: math.MinInt64}, {Lo: 0x1234_5678_9ABC_DEF0, Hi: 0x7777_1111_5555_3333}}
	for range 60 {
		spans = append(spans, span.Span{Lo: int64(d.number()), Hi: int64(d.number())})
	}
	longest, held := 0, 0
	for _, s := range spans {
		lines, e := emit.Lines(100, nil, slow, s, true)
		test := lines[2 : len(lines)-len(careful)]
		if longest = max(longest, len(test)); e != api.OK || len(test) > 14 {
			t.Fatal(e, text(test))
		}
		for _, l := range test {
			if !l.Real() || !a64.May(l.Inst) || l.Jumps() != (l.Ref == emit.Block) || l.Jumps() && (l.Op != a64.B && l.Op != a64.Bcc || l.Off != 0) {
				t.Fatal(show(l))
			}
		}
		length := uint64(s.Hi - s.Lo)
		for range 60 {
			lo := d.number()
			size := []uint64{length, length - 1, length + 1, length + 64, 0, all, d.number()}[d.below(7)]
			sp := lo - uint64(s.Lo) + []uint64{0, 1, all, size - length, size - length + 1, size - length - 1, size, d.number()}[d.below(8)]
			want := s.Within(sp, lo, size)
			if got := decide(t, d, test, sp, lo, size); got != want {
				t.Fatalf("%+v, sp %d, stack %d %d: %v", s, sp, lo, size, got)
			}
			if want {
				held++
			}
		}
	}
	if longest != 14 || held < 500 {
		t.Error(longest, held)
	}
}

// P24.2, P24.4: both versions of a block do what its codes do, and the one that is fast is taken in the stack alone.
func TestVersions(t *testing.T) {
	d := &dice{5}
	fast, slow, s := blocks(t)
	lines, _ := emit.Lines(100, fast, slow, s, true)
	l, bounds, labels := real(lines)
	for _, inside := range []bool{true, false} {
		x := newThread(d, ir.State{})
		x.X[3], x.X[4], x.X[sel.Lo], x.X[sel.Size] = 1001, 1016, 1000, 16
		if !inside {
			x.X[sel.Size] = 15
		}
		state := x.cells()
		got := x.run(l, bounds[0], labels[1])
		version := fast
		if !inside {
			if got.ref.Ref != emit.Block || got.ref.To != 100 || got.ref.Ver != 1 {
				t.Fatal(got)
			}
			executed := x.executed
			got, version = x.run(l, labels[1], len(l)), slow
			if executed > 14 {
				t.Error(executed)
			}
		}
		m := newThread(d, state).m
		var told []string
		for _, c := range version {
			told = append(told, trace(c, state, m.Copy())(0))
			ir.Run(c, &state, 0, m)
			m.Flush(0)
		}
		if got.ref.To != 105 || x.cells() != state || !same(x.m, m) || join(x.trace...) != join(told...) {
			t.Errorf("%v: %+v\n%s\nnot\n%s", inside, got, join(x.trace...), join(told...))
		}
	}
}

// Codes that are given stay as they are, and lines are the caller's.
func TestNew(t *testing.T) {
	fast, slow, s := blocks(t)
	ops := slices.Clone(slow[0].Ops)
	lines, _ := emit.Lines(100, fast, slow, s, true)
	want := text(lines)
	clear(lines)
	lines = append(lines[:3], emit.Line{Label: true})
	if lines, _ = emit.Lines(100, fast, slow, s, true); text(lines) != want {
		t.Error(text(lines))
	}
	if !slices.Equal(slow[0].Ops, ops) {
		t.Error("changed", slow[0].Ops)
	}
}
