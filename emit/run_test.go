package emit_test

import (
	"fmt"
	"slices"
	"strings"
	"testing"

	"calque/a64"
	"calque/api"
	"calque/asem"
	"calque/emit"
	"calque/ir"
	"calque/mem"
	"calque/sel"
)

const (
	base  = 4096    // where the first instruction is put
	spill = 1 << 50 // where Room is put
)

// show is the text of a line.
func show(l emit.Line) string {
	at := fmt.Sprintf("%d.%d", l.To, l.Ver)
	switch {
	case l.Label:
		return "label " + at
	case l.Bound:
		return "bound " + at
	case l.Ref == emit.Block:
		return a64.Show(l.Inst) + " -> " + at
	case l.Ref == emit.Find:
		return a64.Show(l.Inst) + " -> find"
	}
	return a64.Show(l.Inst)
}

// text is the texts of lines.
func text(l []emit.Line) string {
	var s []string
	for _, x := range l {
		s = append(s, show(x))
	}
	return strings.Join(s, "\n")
}

// thread is a thread that executes lines.
type thread struct {
	asem.Cpu
	m     *mem.Mem
	fails func() bool // does the exclusive store that follows fail?

	executed, failed int
	trace            []string // accesses outside of Room, and fences
}

// left is how execution of lines ended: by an end, at a number of instructions, or by a reference.
type left struct {
	end int
	at  int
	ref emit.Line
}

// run executes instructions that have the numbers from one on up to before another, one by one.
func (x *thread) run(l []emit.Line, from, to int) left {
	x.Pc = base + 4*uint64(from)
	x.executed, x.failed, x.trace = 0, 0, nil
	for {
		k := int(x.Pc-base) / 4
		if k < from || k >= to {
			return left{at: k}
		}
		x.executed++
		a := x.Need(l[k].Inst)
		fails := a.Ex && x.m.May(0, a.At, a.W, true) && a.Store && x.fails()
		x.note(l[k].Inst, fails)
		pc := x.Pc
		end := x.Step(0, l[k].Inst, x.m, fails)
		if fails {
			x.failed++
		}
		switch {
		case end != api.Runs:
			return left{end: end, at: k}
		case l[k].Ref != emit.None && x.Pc == pc:
			return left{at: k, ref: l[k]}
		}
	}
}

// note keeps an access outside of Room, or a fence.
func (x *thread) note(i a64.Inst, fails bool) {
	a := x.Need(i)
	if a.At-spill < emit.Room && (a.Load || a.Store) {
		return
	}
	switch {
	case i.Op == a64.Dmb:
		x.trace = append(x.trace, a64.Show(i))
	case a.Ex && a.Store:
		x.trace = append(x.trace, fmt.Sprintf("sx.%d %d %d %v", a.W, a.At, a.V, fails))
	case a.Ex:
		x.trace = append(x.trace, fmt.Sprintf("lx.%d %d", a.W, a.At))
	case a.Load:
		x.trace = append(x.trace, fmt.Sprintf("load.%d %d %v", a.W, a.At, a.Acq))
	case a.Store:
		x.trace = append(x.trace, fmt.Sprintf("store.%d %d %d %v", a.W, a.At, a.V, a.Rel))
	}
}

// real are the instructions of lines, and the numbers that bounds and labels have among them.
func real(lines []emit.Line) (l []emit.Line, bounds, labels []int) {
	for _, x := range lines {
		switch {
		case x.Bound:
			bounds = append(bounds, len(l))
		case x.Label:
			labels = append(labels, len(l))
		default:
			l = append(l, x)
		}
	}
	return l, bounds, labels
}

// cells are registers 0 to 18.
func (x *thread) cells() ir.State {
	var s ir.State
	copy(s.Cell[:], x.X[:])
	return s
}

// spoil writes anything to all that may have any contents between codes.
func (x *thread) spoil(d *dice) {
	for r := sel.First; r <= sel.Spare; r++ {
		x.X[r] = d.number()
	}
	x.X[sel.Other] = d.number()
	x.Flags = asem.Flags{N: d.below(2) == 0, Z: d.below(2) == 0, C: d.below(2) == 0, V: d.below(2) == 0}
	for k := range uint64(emit.Room / 8) {
		x.m.Put(0, spill+8*k, 8, d.word())
	}
}

// areas are memory outside of Room: some that may be written, and some that may only be read.
func areas() []mem.Area {
	return []mem.Area{
		{Lo: 1000, Data: []byte("the bytes of an area that may be written by anyone who likes it."), Write: true},
		{Lo: 1064, Data: []byte("and these may only be read")},
	}
}

// newThread is a thread whose cells are those of a state.
func newThread(d *dice, s ir.State) *thread {
	x := &thread{fails: func() bool { return d.below(3) == 0 }}
	x.m = mem.New(append(areas(), mem.Area{Lo: spill, Data: make([]byte, emit.Room), Write: true})...)
	copy(x.X[:], s.Cell[:])
	x.X[sel.Lo], x.X[sel.Size], x.X[sel.Spill] = d.number(), d.number(), spill
	return x
}

// same reports whether memories have the same bytes outside of Room.
func same(m, n *mem.Mem) bool {
	a, b := m.Areas(), n.Areas()
	for k := range areas() {
		if !slices.Equal(a[k].Data, b[k].Data) {
			return false
		}
	}
	return true
}

// falls reports whether the bound of the next code is where a code continues at an address.
func falls(codes []ir.Code, k int, to uint64) bool {
	if k+1 == len(codes) || codes[k+1].At != to {
		return false
	}
	c := codes[k]
	return c.Kind == ir.Goto || c.Kind == ir.If && c.Else == to
}

// check executes the lines of codes, one code after the other from the same cells and memory as Run, and compares all that the document says of them.
func check(t *testing.T, d *dice, codes []ir.Code, lines []emit.Line, s ir.State, ends map[string]int) {
	t.Helper()
	l, bounds, _ := real(lines)
	bounds = append(bounds, len(l))
	x, m := newThread(d, s), mem.New(areas()...)
	for k, c := range codes {
		x.spoil(d)
		fixed := [3]uint64{x.X[sel.Lo], x.X[sel.Size], x.X[sel.Spill]}
		told := trace(c, s, m.Copy())
		how, to := ir.Run(c, &s, 0, m)
		m.Flush(0)
		got := x.run(l, bounds[k], bounds[k+1])
		want := ""
		switch {
		case how == api.Calls:
			want = "svc and then b to the block"
			if got.end != api.Calls || l[got.at].Op != a64.Svc || !isB(l[got.at+1], emit.Block, to) {
				t.Fatal(want)
			}
		case how != api.Runs:
			want = "an end"
			if got.end != how {
				t.Fatal(want, got, how)
			}
		case falls(codes, k, to):
			want = "the next bound"
			if got.end != api.Runs || got.ref.Ref != emit.None || got.at != bounds[k+1] {
				t.Fatal(want, got)
			}
		case got.end != api.Runs || got.ref.Ref == emit.None:
			t.Fatal("a reference", got)
		case got.ref.Ref == emit.Find:
			want = "find"
			if c.Kind != ir.Jump || x.X[sel.Other] != to || got.ref.To != 0 || got.ref.Ver != 0 {
				t.Fatal(want, got)
			}
		default:
			want = "a block"
			if got.ref.To != to || got.ref.Ver != 0 {
				t.Fatal(want, got, to)
			}
			if c.Kind == ir.Jump && !slices.ContainsFunc(c.Ops, func(o ir.Op) bool { return o.Kind == ir.Skip }) {
				t.Fatal("no search")
			}
		}
		ends[want]++
		if x.cells() != s {
			t.Fatal("cells", x.cells(), s)
		}
		if !same(x.m, m) || fixed != [3]uint64{x.X[sel.Lo], x.X[sel.Size], x.X[sel.Spill]} {
			t.Fatal("memory, or a register that may not change")
		}
		if got := strings.Join(x.trace, "\n"); got != told(x.failed) {
			t.Fatalf("accesses:\n%s\nnot\n%s", got, told(x.failed))
		}
		if x.executed > (12*len(c.Ops)+4)*(1+x.failed) {
			t.Fatal("too many are executed:", x.executed)
		}
	}
}

// isB reports whether a line is a B with a reference.
func isB(l emit.Line, ref int, to uint64) bool {
	return l == emit.Line{Inst: a64.Inst{Op: a64.B, W: 8}, Ref: ref, To: to}
}

// trace is what layer 13 says of the accesses and fences of a code. They depend on how often its exclusive store fails.
func trace(c ir.Code, s ir.State, m *mem.Mem) func(fails int) string {
	values := make([]uint64, len(c.Ops))
	var before, again, behind []string
	l := &before
	tell := func(format string, v ...any) { *l = append(*l, fmt.Sprintf(format, v...)) }
	for k, o := range c.Ops {
		a, b := uint64(0), uint64(0)
		if n := o.Uses(); len(n) > 0 {
			a, b = values[n[0]], values[n[len(n)-1]]
		}
		ok := true
		switch o.Kind {
		case ir.Load:
			tell("load.%d %d %v", o.W, a, o.Ord == ir.Strong)
			values[k], ok = m.Load(0, a, o.W)
		case ir.Store:
			tell("store.%d %d %d %v", o.W, a, low(b, o.W), o.Ord == ir.Strong)
			ok = m.Put(0, a, o.W, b)
		case ir.Lx:
			l = &again
			tell("lx.%d %d", o.W, a)
			values[k], ok = m.Load(0, a, o.W)
		case ir.Sx:
			tell("sx.%d %d %d ", o.W, a, low(b, o.W))
			ok, l = m.Put(0, a, o.W, b), &behind
		case ir.Fence:
			tell("dmb %d", []int{0, 11, 9, 10}[o.F])
		case ir.Trap, ir.Skip:
			ok = a == 0
		case ir.Put:
			s.Cell[o.N] = a
		default:
			values[k] = pure(o, values, s)
		}
		if !ok {
			break
		}
	}
	return func(fails int) string {
		l := slices.Clone(before)
		for k := range fails + 1 {
			for _, x := range again {
				if strings.HasPrefix(x, "sx") {
					x += fmt.Sprint(k < fails)
				}
				l = append(l, x)
			}
		}
		return strings.Join(append(l, behind...), "\n")
	}
}

// low is the lowest bytes of a word.
func low(v uint64, w int) uint64 {
	return v << (64 - 8*w) >> (64 - 8*w)
}

// pure is the value of a step that only works.
func pure(o ir.Op, values []uint64, s ir.State) uint64 {
	switch o.Kind {
	case ir.Const:
		return o.N
	case ir.Get:
		return s.Cell[o.N]
	case ir.Alu:
		return ir.Do(o.F, values[o.A], values[o.B])
	case ir.Sel:
		if values[o.A] != 0 {
			return values[o.B]
		}
		return values[o.C]
	}
	v := low(values[o.A], o.W)
	if o.Signed {
		return uint64(int64(v<<(64-8*o.W)) >> (64 - 8*o.W))
	}
	return v
}
