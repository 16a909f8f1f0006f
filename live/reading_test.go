package live_test

import (
	"slices"
	"testing"

	"calque/api"
	"calque/cfg"
	"calque/ir"
	"calque/lift"
	"calque/live"
	"calque/mem"
	"calque/xinst"
)

// dice are numbers that look as if they were thrown, always the same ones.
type dice struct{ n uint64 }

func (d *dice) word() uint64 {
	d.n = d.n*6364136223846793005 + 1442695040888963407
	x := d.n ^ d.n>>29
	return x*0x9E3779B97F4A7C15 ^ x>>31
}

func (d *dice) below(n int) int { return int(d.word() >> 33 % uint64(n)) }

// number is a small word, an address of memory, or any word.
func (d *dice) number() uint64 {
	switch d.below(4) {
	case 0:
		return uint64(d.below(3))
	case 1:
		return uint64(60 + d.below(80))
	}
	return d.word() >> (8 * d.below(8))
}

// state is cells of any words.
func (d *dice) state() ir.State {
	var s ir.State
	for k := range s.Cell {
		s.Cell[k] = d.number()
	}
	return s
}

// memory has an area from 64 to 127, and one from 160 on that can't be written.
func memory() *mem.Mem {
	m := mem.New(mem.Area{Lo: 64, Data: make([]byte, 64), Write: true}, mem.Area{Lo: 160, Data: []byte{1, 2, 3, 4, 5, 6, 7, 8}})
	m.Store(0, 70, 8, 0x1122334455667788)
	m.Store(0, 72, 2, 0x99AA)
	return m
}

// like reports whether memories are the same, now and at each moment while their buffers are drained.
func like(m, n *mem.Mem) bool {
	m, n = m.Copy(), n.Copy()
	for m.Pending(0) == n.Pending(0) && m.Drain(0) {
		if n.Drain(0); !m.Same(n) {
			return false
		}
	}
	return m.Pending(0) == n.Pending(0) && m.Same(n)
}

// codes are those of a block.
func codes(t *testing.T, b cfg.Block) []ir.Code {
	t.Helper()
	l, e := lift.All(b.At, b.Code...)
	if e != api.OK {
		t.Fatal("All", e)
	}
	return l
}

// throw adds a step that uses some of those before, mostly of flags. Where it leaves, it leaves for the next code.
func (d *dice) throw(c *ir.Code, made []int, next uint64) {
	use := func() int { return made[d.below(len(made))] }
	flag := uint64(16 + d.below(3))
	if d.below(3) == 0 {
		flag = uint64(d.below(16))
	}
	w := 1 << d.below(4)
	switch d.below(16) {
	case 0, 1, 2, 3:
		c.Ops = append(c.Ops, ir.Op{Kind: ir.Get, N: flag})
	case 4, 5, 6, 7:
		c.Ops = append(c.Ops, ir.Op{Kind: ir.Put, N: flag, A: use()})
	case 8, 9:
		c.Ops = append(c.Ops, ir.Op{Kind: ir.Alu, F: 1 + d.below(16), A: use(), B: use()})
	case 10:
		c.Ops = append(c.Ops, ir.Op{Kind: ir.Sel, A: use(), B: use(), C: use()}, ir.Op{Kind: ir.Ext, W: w, A: use(), Signed: d.below(2) == 0})
	case 11:
		c.Ops = append(c.Ops, ir.Op{Kind: ir.Const, N: uint64(60 + d.below(64))}, ir.Op{Kind: ir.Load, W: w, A: use(), Ord: d.below(2)})
	case 12:
		c.Ops = append(c.Ops, ir.Op{Kind: ir.Const, N: uint64(62 + d.below(60))})
		c.Ops = append(c.Ops, ir.Op{Kind: ir.Store, W: w, A: len(c.Ops) - 1, B: use()})
	case 13:
		c.Ops = append(c.Ops, ir.Op{Kind: ir.Skip, N: next, A: use()})
	case 14:
		c.Ops = append(c.Ops, ir.Op{Kind: ir.Alu, F: ir.Eq, A: use(), B: use()})
		c.Ops = append(c.Ops, ir.Op{Kind: ir.Trap, N: uint64(1 + d.below(6)), A: len(c.Ops) - 1})
	case 15:
		c.Ops = append(c.Ops, ir.Op{Kind: ir.Fence, F: 1 + d.below(3)})
	}
}

// code is code of some steps, at an address. It mostly continues at the next one.
func (d *dice) code(at uint64) ir.Code {
	next := func() uint64 {
		if d.below(8) == 0 {
			return d.number()
		}
		return at + 1
	}
	c := ir.Code{At: at, Next: at + 1, Ops: []ir.Op{{Kind: ir.Const, N: d.number()}, {Kind: ir.Const, N: next()}}}
	made := []int{0, 1}
	for range d.below(12) {
		n := len(c.Ops)
		d.throw(&c, made, next())
		for k := n; k < len(c.Ops); k++ {
			if c.Ops[k].Makes() {
				made = append(made, k)
			}
		}
	}
	c.End = ir.End{Kind: ir.Goto, To: at + 1}
	switch d.below(16) {
	case 0, 1:
		c.End = ir.End{Kind: ir.If, A: made[d.below(len(made))], To: next(), Else: next()}
	case 2, 3:
		c.End = ir.End{Kind: ir.Jump, A: 1}
	case 4:
		c.End = ir.End{Kind: ir.Sys, To: next()}
	case 5:
		c.End = ir.End{Kind: ir.Stop, A: 1 + d.below(6)}
	}
	return c
}

// row are codes of which each mostly continues at the next one.
func (d *dice) row(n int) []ir.Code {
	var l []ir.Code
	for k := range n {
		l = append(l, d.code(uint64(1000+k)))
	}
	return l
}

// cleaned is a second reading of what is left of valid code: as long as there is a pure step that nothing uses, it is taken out.
func cleaned(c ir.Code) ir.Code {
	for n := 0; n < len(c.Ops); n++ {
		used := (c.Kind == ir.If || c.Kind == ir.Jump) && c.A == n
		for _, o := range c.Ops {
			used = used || slices.Contains(o.Uses(), n)
		}
		if c.Ops[n].Pure() && !used {
			c = removed(c, n)
			n = -1
		}
	}
	return c
}

// removed is code without a step that nothing uses.
func removed(c ir.Code, n int) ir.Code {
	less := func(p *int) {
		if *p > n {
			*p--
		}
	}
	c.Ops = slices.Delete(slices.Clone(c.Ops), n, n+1)
	for k := range c.Ops {
		o := &c.Ops[k]
		for m, p := range []*int{&o.A, &o.B, &o.C} {
			if m < len(o.Uses()) {
				less(p)
			}
		}
	}
	if c.Kind == ir.If || c.Kind == ir.Jump {
		less(&c.A)
	}
	return c
}

// P15.2: many codes, held against the second reading.
func TestCleanMany(t *testing.T) {
	d := &dice{1}
	gone := 0
	for range 20000 {
		c := d.code(7)
		if !ir.May(c) {
			t.Fatal("not valid", c)
		}
		got, want := live.Clean(c), cleaned(c)
		if !same(got, want) || !ir.May(got) || !same(live.Clean(got), got) {
			t.Fatalf("%q: %q, not %q", ir.Show(c), ir.Show(got), ir.Show(want))
		}
		gone += len(c.Ops) - len(got.Ops)
	}
	if gone < 20000 {
		t.Error("few steps removed", gone)
	}
}

// ending is how codes ended that were executed one after the other.
type ending struct {
	at, how int
	to      uint64
	all     bool // all codes were executed: up to their ends, or as far as a Skip
	ir.State
	m *mem.Mem
}

// execute executes codes one after the other.
func execute(l []ir.Code, s ir.State, m *mem.Mem) ending {
	e := ending{State: s, m: m.Copy()}
	for k, c := range l {
		e.at = k
		e.how, e.to = ir.Run(c, &e.State, 0, e.m)
		if e.how != api.Runs || k+1 < len(l) && e.to != l[k+1].At {
			break
		}
	}
	if n := len(l) - 1; n >= 0 && e.at == n {
		stops := l[n].Kind == ir.Stop && !slices.ContainsFunc(l[n].Ops, func(o ir.Op) bool { return o.Kind == ir.Trap || o.Kind == ir.Load || o.Kind == ir.Store })
		e.all = e.how == api.Runs || e.how == api.Calls || stops
	}
	return e
}

// agree reports whether two ends are the same, with some flags.
func agree(x, y ending, flags live.Set) bool {
	good := x.at == y.at && x.how == y.how && x.to == y.to && x.all == y.all && slices.Equal(x.Cell[:16], y.Cell[:16]) && like(x.m, y.m)
	for k := range 3 {
		good = good && (!x.all || flags>>k&1 == 0 || x.Cell[16+k] == y.Cell[16+k])
	}
	return good
}

// unread are the flags that no code reads before another one puts them, and those of them that one puts.
func unread(l []ir.Code) (live.Set, live.Set) {
	var reads, puts live.Set
	for _, c := range l {
		reads |= live.Reads(c) &^ puts
		puts |= live.Puts(c)
	}
	return live.All &^ reads, puts &^ reads
}

// shaped reports whether codes are those of a list, but for steps that are left out.
func shaped(got, l []ir.Code) bool {
	return slices.EqualFunc(got, l, func(x, y ir.Code) bool {
		e, f := x.End, y.End
		if e.Kind == ir.If || e.Kind == ir.Jump {
			e.A, f.A = 0, 0
		}
		return x.At == y.At && x.Next == y.Next && e == f && len(x.Ops) <= len(y.Ops) && ir.May(x) == ir.May(y)
	})
}

// without is a state with other words for some flags.
func (d *dice) without(s ir.State, flags live.Set) ir.State {
	for k := range 3 {
		if flags>>k&1 == 1 {
			s.Cell[16+k] = d.number()
		}
	}
	return s
}

// trims holds what is left of codes against them (P15.3).
func (d *dice) trims(t *testing.T, l []ir.Code) (int, int) {
	t.Helper()
	out := live.Set(d.below(8))
	got := live.Trim(out, l...)
	if !shaped(got, l) {
		t.Fatalf("%d %+v: %+v", out, l, got)
	}
	gone := 0
	for k, c := range l {
		gone += len(c.Ops) - len(got[k].Ops)
	}
	dead(t, out, got)
	free, put := unread(l)
	done := 0
	for range 6 {
		s, m := d.state(), memory()
		x, y := execute(l, s, m), execute(got, s, m)
		other := d.without(s, free)
		z, w := execute(l, other, m), execute(got, other, m)
		if flags := out &^ (free &^ put); !agree(x, y, out) || !agree(x, z, flags) || !agree(x, w, flags) {
			t.Fatalf("%d %+v: %+v; %v %v %v %v", out, l, got, x, y, z, w)
		}
		if x.all {
			done++
		}
	}
	return gone, done
}

// dead tells of a code that puts a flag that neither it nor a later one reads. It is code of which no Put of a flag is behind a Skip.
func dead(t *testing.T, out live.Set, l []ir.Code) {
	t.Helper()
	for _, c := range slices.Backward(l) {
		reads := live.Set(0)
		for _, o := range c.Ops {
			if o.Kind == ir.Get && o.N >= 16 {
				reads |= 1 << (o.N - 16)
			}
			if o.Kind == ir.Skip {
				reads = live.All
			}
		}
		if useless := live.Puts(c) &^ (out | reads); useless != 0 {
			t.Fatalf("puts %d: %q", useless, ir.Show(c))
		}
		out = live.Reads(c) | out&^live.Puts(c)
	}
}

// P15.3: many codes.
func TestTrimMany(t *testing.T) {
	d := &dice{2}
	gone, done := 0, 0
	for range 6000 {
		n, m := d.trims(t, d.row(d.below(7)))
		gone, done = gone+n, done+m
	}
	if gone < 20000 || done < 6000 {
		t.Error("few steps removed, or few ends reached", gone, done)
	}
}

// P15.3: codes of which some are not valid.
func TestTrimSpoilt(t *testing.T) {
	d := &dice{3}
	bad := spoilt()
	for range 4000 {
		l := d.row(1 + d.below(5))
		l[d.below(len(l))] = bad[d.below(len(bad))]
		if got := live.Trim(live.Set(d.word()), l...); !shaped(got, l) {
			t.Fatalf("%+v: %+v", l, got)
		}
	}
}

// operand is one of any kind; addresses are those of memory, as often as not.
func (d *dice) operand() xinst.Opd {
	switch d.below(6) {
	case 0:
		return xinst.Opd{}
	case 1, 2:
		return xinst.R(d.below(16))
	case 3:
		return []xinst.Opd{imm, r1}[d.below(2)]
	case 4:
		return xinst.M(-1, -1, 1, int64(64+d.below(60)))
	}
	return xinst.M(d.below(16), -1, 1, int64(d.below(16)))
}

// inst is a valid instruction that does not leave its block.
func (d *dice) inst() xinst.Inst {
	for {
		i := xinst.Inst{Op: 1 + d.below(xinst.Ud), W: 1 << d.below(4), A: d.operand(), B: d.operand(), Lock: d.below(6) == 0}
		if d.below(2) == 0 {
			i.Imm = int64(d.below(100))
		}
		if i.Op == xinst.Movzx || i.Op == xinst.Movsx {
			i.W2 = 1 << d.below(3)
		}
		if i.Op == xinst.Cmov || i.Op == xinst.Set {
			i.Cc = d.below(16)
		}
		if xinst.May(i) && !i.Ends() {
			return i
		}
	}
}

// P15.3: codes of many instructions.
func TestTrimLifted(t *testing.T) {
	d := &dice{4}
	gone, done := 0, 0
	for range 4000 {
		var l []xinst.Inst
		for range d.below(9) {
			l = append(l, with(d.inst(), 1))
		}
		n, m := d.trims(t, codes(t, cfg.Block{At: 1000, Code: l}))
		gone, done = gone+n, done+m
	}
	if gone < 20000 || done < 4000 {
		t.Error("few steps removed, or few ends reached", gone, done)
	}
}

// program is a list of instructions in which jumps lead anywhere.
func (d *dice) program() []xinst.Inst {
	var l []xinst.Inst
	n := 4 + d.below(40)
	for len(l) < n {
		to := int64(d.below(n + 1))
		switch d.below(12) {
		case 0, 1:
			l = append(l, jcc(d.below(16), to))
		case 2:
			l = append(l, jmp(to))
		case 3:
			l = append(l, call(to))
		case 4:
			l = append(l, []xinst.Inst{ret, ud, sys, stos, jmpr, callr}[d.below(6)])
		case 5, 6, 7:
			l = append(l, []xinst.Inst{add, inc, rol, adc, seto, setc, setz, nop}[d.below(8)])
		default:
			l = append(l, d.inst())
		}
	}
	return l
}

// sought is a second reading of whether a flag matters at the beginning of a block: forward, on all ways that lead from there, until one reads it.
func sought(t *testing.T, g cfg.Graph, flag live.Set, k int, seen []bool) bool {
	if seen[k] {
		return false
	}
	seen[k] = true
	b := g.Blocks[k]
	for _, c := range codes(t, b) {
		if live.Reads(c)&flag != 0 {
			return true
		}
		if live.Puts(c)&flag != 0 {
			return false
		}
	}
	return behind(t, g, flag, k, seen)
}

// behind is a second reading of whether a flag matters at the end of a block.
func behind(t *testing.T, g cfg.Graph, flag live.Set, k int, seen []bool) bool {
	b := g.Blocks[k]
	last := b.Code[len(b.Code)-1]
	if by := last.A.Kind != xinst.None; last.Op == xinst.Ret || by && (last.Op == xinst.Jmp || last.Op == xinst.Call) {
		return true
	}
	for n, next := range g.Blocks {
		goes := slices.Contains(b.To, next.At) && last.Op != xinst.Ud
		if last.Op == xinst.Call {
			goes = goes && next.At == b.End()+uint64(last.Imm)
		}
		if goes && sought(t, g, flag, n, seen) {
			return true
		}
	}
	return false
}

// P15.4: many programs, held against the second reading; P15.5: their blocks, with any words for flags that do not matter.
func TestPrograms(t *testing.T) {
	d := &dice{5}
	count := map[live.Set]int{}
	done := 0
	for range 300 {
		l := d.program()
		g := program(t, []int{d.below(len(l)), d.below(len(l))}, nil, l...)
		in := live.Blocks(g)
		if len(in) != len(g.Blocks) {
			t.Fatal("blocks", len(in))
		}
		for k, b := range g.Blocks {
			var begin, end live.Set
			for flag := live.C; flag <= live.Res; flag *= 2 {
				if sought(t, g, flag, k, make([]bool, len(in))) {
					begin |= flag
				}
				if behind(t, g, flag, k, make([]bool, len(in))) {
					end |= flag
				}
			}
			if out := live.Out(g, in, k); in[k] != begin || out != end {
				t.Fatalf("%+v: %d %d, not %d %d", b, in[k], out, begin, end)
			}
			count[begin]++
			done += d.effects(t, codes(t, b), begin, end)
		}
	}
	for s := range live.Set(8) {
		if count[s] < 10 {
			t.Error("few blocks", s, count)
		}
	}
	if done < 2000 {
		t.Error("few ends reached", done)
	}
}

// effects tells of codes that do something else if flags that do not matter ahead of them have other words, or with what Trim leaves of them.
func (d *dice) effects(t *testing.T, l []ir.Code, begin, end live.Set) int {
	t.Helper()
	done := 0
	trimmed := live.Trim(end, l...)
	for range 4 {
		s, m := d.state(), memory()
		other := d.without(s, live.All&^begin)
		x := execute(l, s, m)
		for _, y := range []ending{execute(l, other, m), execute(trimmed, s, m), execute(trimmed, other, m)} {
			if !agree(x, y, end) {
				t.Fatalf("%d %d %+v: %v %v", begin, end, l, x, y)
			}
		}
		if x.all {
			done++
		}
	}
	return done
}
