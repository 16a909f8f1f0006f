package lay_test

import (
	"slices"
	"testing"

	"calque/a64"
	"calque/adec"
	"calque/api"
	"calque/asem"
	"calque/emit"
	"calque/lay"
	"calque/mem"
)

// dice are numbers that look as if they were thrown, always the same ones.
type dice struct{ n uint64 }

func (d *dice) word() uint64 {
	d.n = d.n*6364136223846793005 + 1442695040888963407
	x := d.n ^ d.n>>29
	return x*0x9E3779B97F4A7C15 ^ x>>31
}

func (d *dice) below(n int) int { return int(d.word() >> 33 % uint64(n)) }

// one is one of some numbers.
func one[T any](d *dice, l ...T) T { return l[d.below(len(l))] }

// thrown is what Lay is given.
type thrown struct {
	base, find, fault uint64
	reach             int64
	l                 []emit.Line
}

// throw throws lines that most often can be laid.
func throw(d *dice, most int) thrown {
	x := thrown{reach: one[int64](d, 16, 17, 20, 32, 64, 100, 400, 4000, most20)}
	x.base = one[uint64](d, 0, 4096, 1<<47+1<<20, 1<<64-64) + 4*uint64(d.below(9))
	near := func() uint64 { return x.base + 4*uint64(d.below(3*most)) - 4*uint64(most) }
	x.find, x.fault = near(), near()
	blocks := 1 + d.below(8)
	for range d.below(most) {
		x.l = append(x.l, x.line(d, blocks))
	}
	x.unlike()
	x.lead(d)
	if d.below(6) == 0 {
		x.harm(d, most)
	}
	return x
}

const most20 = 1<<20 - 4

// line is a line that jumps nowhere by a distance.
func (x *thrown) line(d *dice, blocks int) emit.Line {
	l := emit.Line{To: uint64(d.below(blocks)), Ver: d.below(2)}
	switch d.below(9) {
	case 0, 1:
		l.Label = true
	case 2:
		l.Bound, l.Label = true, d.below(8) == 0
	case 3, 4, 5:
		l.Inst = jump(d)
		l.Ref = one(d, emit.Block, emit.Block, emit.Block, emit.Find)
	default:
		l.Inst = one(d, nop, brk, a64.Inst{Op: a64.Movz, W: 8, D: 3, Imm: 7}, a64.Inst{Op: a64.Add, W: 8, D: 1, N: 2, M: 3}, a64.Inst{Op: a64.Br, W: 8, N: 9}, a64.Inst{Op: a64.SubsI, W: 8, D: 4, N: 5, Imm: 1})
	}
	return l
}

// jump is an instruction that may refer.
func jump(d *dice) a64.Inst {
	i := a64.Inst{Op: one(d, a64.B, a64.Bcc, a64.Bcc, a64.Cbz, a64.Cbnz), W: 8}
	switch i.Op {
	case a64.Bcc:
		i.Cond = d.below(14)
	case a64.Cbz, a64.Cbnz:
		i.D = one(d, d.below(31), 31)
	}
	return i
}

// unlike leaves out labels that are there.
func (x *thrown) unlike() {
	seen := map[emit.Line]bool{}
	x.l = slices.DeleteFunc(x.l, func(l emit.Line) bool {
		l.Bound = false
		again := l.Label && seen[l]
		seen[l] = true
		return again
	})
}

// lead makes some instructions that do nothing jump by a distance, most often one that may be.
func (x *thrown) lead(d *dice) {
	for k := range x.l {
		if x.l[k].Op != a64.Nop || d.below(2) == 0 {
			continue
		}
		nop := x.l[k].Inst
		for range 4 {
			x.l[k].Inst = jump(d)
			x.l[k].Off = 4 * (int64(d.below(9)) - 4)
			if leads(x.l, k) || d.below(400) == 0 {
				break
			}
			x.l[k].Inst = nop
		}
	}
}

// harm changes something, so that Lay may fail.
func (x *thrown) harm(d *dice, most int) {
	switch d.below(8) {
	case 0:
		x.base += uint64(d.below(4))
	case 1:
		x.find += uint64(d.below(4))
	case 2:
		x.fault += uint64(d.below(4))
	case 3:
		x.reach = one[int64](d, -16, 15, 16, most20+1)
	case 4:
		x.fault = x.base + 1<<27 - uint64(4*d.below(3*most))
	case 5:
		x.find = x.base - 1<<27 + uint64(4*d.below(3*most))
	}
	if len(x.l) == 0 {
		return
	}
	l := &x.l[d.below(len(x.l))]
	switch d.below(5) {
	case 0:
		l.Ref = one(d, -1, 0, 1, 2, 3)
	case 1:
		l.Cond = one(d, 14, 15)
	case 2:
		l.Off += 4
	case 3:
		*l = x.l[0]
	case 4:
		x.l = append(x.l, emit.Line{Label: true})
	}
}

// leads reports whether what P25.1 says of a jump by a distance is so for a line.
func leads(l []emit.Line, k int) bool {
	var real []emit.Line
	from := -1
	for n, x := range l {
		if x.Real() {
			if n == k {
				from = len(real)
			}
			real = append(real, x)
		}
	}
	to := from + int(l[k].Off)/4
	if to < 0 || to >= len(real) {
		return false
	}
	fixed := func(x emit.Line) bool { return x.Ref == emit.None || x.Op == a64.B }
	for n := range real {
		between := n > from && n < to || n < from && n > to
		if (between || n == to && to < from) && !fixed(real[n]) {
			return false
		}
	}
	return true
}

// read is what the document says of Lay, done one thing after the other.
func (x thrown) read() (lay.Laid, api.Errno) {
	if e := x.first(); e != api.OK {
		return lay.Laid{}, e
	}
	long := map[int]bool{}
	for {
		at, labels := x.addresses(long)
		var far []int
		for k, l := range x.l {
			if n := int64(x.target(labels, l) - at[k]); l.Real() && l.Ref != emit.None && l.Op != a64.B && !long[k] && max(n, -n) > x.reach {
				far = append(far, k)
			}
		}
		if len(far) == 0 {
			return x.coded(long, at, labels)
		}
		for _, k := range far {
			long[k] = true
		}
	}
}

// first is the first error that does not need addresses.
func (x thrown) first() api.Errno {
	if x.base%4+x.find%4+x.fault%4 != 0 || x.reach < 16 || x.reach > most20 {
		return api.ErrArg
	}
	for k, l := range x.l {
		refers := l.Real() && l.Ref != emit.None
		switch {
		case l.Ref < 0 || l.Ref > 2:
			return api.ErrArg
		case l.Real() && !a64.May(l.Inst):
			return api.ErrArg
		case refers && !l.Jumps(), refers && l.Off != 0, refers && l.Op == a64.Bcc && l.Cond > 13:
			return api.ErrArg
		case l.Real() && !refers && l.Jumps() && !leads(x.l, k):
			return api.ErrArg
		}
	}
	for k, l := range x.l {
		for _, m := range x.l[:k] {
			if l.Label && m.Label && l.To == m.To && l.Ver == m.Ver {
				return api.ErrForm
			}
		}
	}
	return api.OK
}

// addresses are those of all lines, and those of labels.
func (x thrown) addresses(long map[int]bool) ([]uint64, map[[2]uint64]uint64) {
	var at []uint64
	labels := map[[2]uint64]uint64{}
	end := x.base
	for k, l := range x.l {
		at = append(at, end)
		if l.Label {
			labels[[2]uint64{l.To, uint64(l.Ver)}] = end
		}
		if l.Real() {
			end += 4
		}
		if long[k] {
			end += 4
		}
	}
	return append(at, end), labels
}

// target is the address that a line refers to.
func (x thrown) target(labels map[[2]uint64]uint64, l emit.Line) uint64 {
	at, ok := labels[[2]uint64{l.To, uint64(l.Ver)}]
	switch {
	case l.Ref == emit.Find:
		return x.find
	case ok:
		return at
	}
	return x.fault
}

// coded are the words and places.
func (x thrown) coded(long map[int]bool, at []uint64, labels map[[2]uint64]uint64) (lay.Laid, api.Errno) {
	out := lay.Laid{Base: x.base}
	for k, l := range x.l {
		if l.Label {
			out.Labels = append(out.Labels, lay.Place{To: l.To, Ver: l.Ver, At: at[k]})
		}
		if l.Bound {
			out.Bounds = append(out.Bounds, lay.Place{To: l.To, At: at[k]})
		}
		if !l.Real() {
			continue
		}
		i, here := l.Inst, at[k]
		if long[k] {
			var j a64.Inst
			switch i.Op {
			case a64.Bcc:
				j = a64.Inst{Op: a64.Bcc, W: 8, Cond: i.Cond - 2*(i.Cond%2) + 1}
			case a64.Cbz:
				j = a64.Inst{Op: a64.Cbnz, W: 8, D: i.D}
			case a64.Cbnz:
				j = a64.Inst{Op: a64.Cbz, W: 8, D: i.D}
			}
			j.Off = 8
			w, _ := a64.Encode(j)
			out.Words = append(out.Words, w)
			i, here = b, here+4
		}
		if l.Ref != emit.None {
			n := int64(x.target(labels, l) - here)
			if i.Op == a64.B && (n > 1<<27-4 || n < -(1<<27-4)) {
				return lay.Laid{}, api.ErrSize
			}
			i.Off = n
		}
		w, _ := a64.Encode(i)
		out.Words = append(out.Words, w)
	}
	return out, api.OK
}

// same reports whether results are equal.
func same(l, m lay.Laid) bool {
	return l.Base == m.Base && slices.Equal(l.Words, m.Words) && slices.Equal(l.Labels, m.Labels) && slices.Equal(l.Bounds, m.Bounds)
}

// P25.1, P25.2: thrown lines are laid as the document says.
func TestReading(t *testing.T) {
	d := &dice{1}
	ends := map[api.Errno]int{}
	long := 0
	for round := range 20000 {
		x := throw(d, []int{6, 20, 60, 200}[round%4])
		want, wantE := x.read()
		got, e := lay.Lay(x.base, x.find, x.fault, x.reach, x.l...)
		if e != wantE || !same(got, want) {
			t.Fatalf("%+v: %d, not %d\n%+v\n%+v", x, e, wantE, got, want)
		}
		ends[e]++
		if e != api.OK {
			continue
		}
		if got.End() != x.base+4*uint64(len(got.Words)) {
			t.Fatal(got.End())
		}
		for _, l := range got.Labels {
			if at, ok := got.Find(l.To, l.Ver); !ok || at != l.At {
				t.Fatal(l, at, ok)
			}
		}
		real := 0
		for _, l := range x.l {
			if l.Real() {
				real++
			}
		}
		if len(got.Words) > real {
			long++
		}
		x.check(t, d, got)
		x.shrink(t, got)
	}
	if ends[api.OK] < 10000 || ends[api.ErrArg] < 500 || ends[api.ErrForm] < 100 || ends[api.ErrSize] < 10 || long < 2000 {
		t.Error("too few", ends, long)
	}
}

// shrink checks P25.4: a smaller reach gives at least as many words, and one within which everything is one word for each instruction.
func (x thrown) shrink(t *testing.T, got lay.Laid) {
	t.Helper()
	for _, reach := range []int64{16, 24, x.reach/2 + 8} {
		if l, e := lay.Lay(x.base, x.find, x.fault, min(reach, x.reach), x.l...); e != api.ErrSize && (e != api.OK || len(l.Words) < len(got.Words)) {
			t.Fatal("reach", reach, e, len(l.Words), len(got.Words))
		}
	}
	if l, e := lay.Lay(x.base, x.base, x.base, most20, x.l...); e != api.OK || len(l.Words) != len(slices.DeleteFunc(slices.Clone(x.l), func(l emit.Line) bool { return !l.Real() })) {
		t.Fatal("everything is within reach", e, len(l.Words))
	}
}

// check executes the words of each line and checks P25.3: they lead where the line does.
func (x thrown) check(t *testing.T, d *dice, laid lay.Laid) {
	t.Helper()
	at, real := x.where(laid)
	labels := map[[2]uint64]uint64{}
	for _, l := range laid.Labels {
		labels[[2]uint64{l.To, uint64(l.Ver)}] = l.At
	}
	for n, l := range real {
		cpu := asem.Cpu{Flags: asem.Flags{N: d.below(2) == 0, Z: d.below(2) == 0, C: d.below(2) == 0, V: d.below(2) == 0}}
		for r := range cpu.X {
			cpu.X[r] = uint64(d.below(2))
		}
		next, want := at[n+1], at[n+1]
		if l.Jumps() {
			if jumps(cpu, l.Inst) {
				want = x.target(labels, l)
				if l.Ref == emit.None {
					want = at[n+int(l.Off)/4]
				}
			}
		} else {
			c := cpu
			c.Pc = at[n]
			if end := c.Step(0, l.Inst, mem.New(), false); end != api.Runs || l.Op == a64.Br {
				want = c.Pc
			}
		}
		if got := run(cpu, laid, at[n], next); got != want {
			t.Fatalf("%+v at %d: %d, not %d", l, at[n], got, want)
		}
		if next-at[n] == 8 {
			if got := run(cpu, laid, at[n]+4, next); got != x.target(labels, l) {
				t.Fatalf("the second word of %+v: %d", l, got)
			}
		}
	}
}

// where are the addresses of the instructions, and the end, as the words tell them: a line that refers, but is no B, has two words if the first is the inverse jump.
func (x thrown) where(laid lay.Laid) ([]uint64, []emit.Line) {
	var at []uint64
	var real []emit.Line
	k := 0
	for _, l := range x.l {
		if !l.Real() {
			continue
		}
		at, real = append(at, laid.Base+4*uint64(k)), append(real, l)
		i, _ := adec.Decode(laid.Words[k])
		if k++; i.Op != l.Op || i.Cond != l.Cond {
			k++
		}
	}
	return append(at, laid.Base+4*uint64(k)), real
}

// jumps reports whether a jump is made.
func jumps(cpu asem.Cpu, i a64.Inst) bool {
	i.Off = 400
	cpu.Pc = 0
	cpu.Step(0, i, mem.New(), false)
	return cpu.Pc == 400
}

// run executes words from one address on for as long as they are ahead of another, and returns where that leads.
func run(cpu asem.Cpu, laid lay.Laid, from, next uint64) uint64 {
	cpu.Pc = from
	for {
		i, _ := adec.Decode(laid.Words[(cpu.Pc-laid.Base)/4])
		here := cpu.Pc
		end := cpu.Step(0, i, mem.New(), false)
		if end != api.Runs || cpu.Pc != here+4 || here+4 == next {
			if cpu.Pc == here+8 && next == here+8 && i.Jumps() {
				return next
			}
			return cpu.Pc
		}
	}
}
