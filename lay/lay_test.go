package lay_test

import (
	"math"
	"slices"
	"testing"

	"calque/a64"
	"calque/api"
	"calque/emit"
	"calque/lay"
)

const (
	least = 16        // of a reach
	most  = 1<<20 - 4 // of a reach
	farB  = 1<<27 - 4
	full  = 1 << 18 // words
	base  = 1 << 20
	find  = base - 1<<12
	fault = base - 1<<13
)

// Instructions that do not refer, or may.
var (
	nop  = a64.Inst{Op: a64.Nop, W: 8}
	brk  = a64.Inst{Op: a64.Brk, W: 8, Imm: 1}
	b    = a64.Inst{Op: a64.B, W: 8}
	bcc  = a64.Inst{Op: a64.Bcc, W: 8, Cond: a64.Lt}
	cbz  = a64.Inst{Op: a64.Cbz, W: 8, D: 5}
	cbnz = a64.Inst{Op: a64.Cbnz, W: 8, D: 1}
)

// does is a line that refers to nothing.
func does(i a64.Inst) emit.Line { return emit.Line{Inst: i} }

// by is a line that jumps by a distance.
func by(i a64.Inst, off int64) emit.Line {
	i.Off = off
	return does(i)
}

// to is a line that refers to version 0 of a block.
func to(i a64.Inst, at uint64) emit.Line { return emit.Line{Inst: i, Ref: emit.Block, To: at} }

// search is a line that refers to the search.
func search(i a64.Inst) emit.Line { return emit.Line{Inst: i, Ref: emit.Find} }

// label is the label of version 0 of a block.
func label(at uint64) emit.Line { return emit.Line{Label: true, To: at} }

// bound is a bound.
func bound(at uint64) emit.Line { return emit.Line{Bound: true, To: at} }

// nops are lines that do nothing.
func nops(n int) []emit.Line { return slices.Repeat([]emit.Line{does(nop)}, n) }

// join is lines one behind the other.
func join(l ...any) []emit.Line {
	var all []emit.Line
	for _, x := range l {
		switch x := x.(type) {
		case emit.Line:
			all = append(all, x)
		case []emit.Line:
			all = append(all, x...)
		}
	}
	return all
}

// words are the words of instructions.
func words(t *testing.T, l ...a64.Inst) []uint32 {
	t.Helper()
	w, e := a64.All(l...)
	if e != api.OK {
		t.Fatal(e, l)
	}
	return w
}

// off is an instruction with a distance.
func off(i a64.Inst, n int64) a64.Inst {
	i.Off = n
	return i
}

// must lays lines at base.
func must(t *testing.T, reach int64, l ...emit.Line) lay.Laid {
	t.Helper()
	laid, e := lay.Lay(base, find, fault, reach, l...)
	if e != api.OK || laid.Base != base {
		t.Fatal(e, laid.Base)
	}
	return laid
}

// zero reports whether nothing is laid.
func zero(l lay.Laid) bool {
	return l.Base == 0 && len(l.Words)+len(l.Labels)+len(l.Bounds) == 0
}

// Example 1.
func TestExample(t *testing.T) {
	l, e := lay.Lay(4096, 0, 0, 1024, to(cbnz, 100), does(nop), label(100), does(brk))
	if e != api.OK || l.Base != 4096 || len(l.Words) != 3 || l.Words[0] != 0xB5000041 {
		t.Errorf("%d %+v", e, l)
	}
	if !slices.Equal(l.Words, words(t, off(cbnz, 8), nop, brk)) || !slices.Equal(l.Labels, []lay.Place{{To: 100, At: 4104}}) || len(l.Bounds) != 0 {
		t.Errorf("%+v", l)
	}
}

// P25.1: labels and bounds, in the order of the lines, take no room.
func TestPlaces(t *testing.T) {
	l := must(t, most,
		bound(9), emit.Line{Label: true, To: 7, Ver: 1}, emit.Line{Bound: true, To: 7, Ver: 3}, does(nop), label(9), label(7), does(nop),
		emit.Line{Label: true, To: 7, Ver: -5}, bound(9), emit.Line{Label: true, Bound: true, To: math.MaxUint64, Ver: 2}, does(brk), bound(1), label(1))
	if want := []lay.Place{{7, base, 1}, {9, base + 4, 0}, {7, base + 4, 0}, {7, base + 8, -5}, {math.MaxUint64, base + 8, 2}, {1, base + 12, 0}}; !slices.Equal(l.Labels, want) {
		t.Error("labels", l.Labels)
	}
	if want := []lay.Place{{9, base, 0}, {7, base, 0}, {9, base + 8, 0}, {math.MaxUint64, base + 8, 0}, {1, base + 12, 0}}; !slices.Equal(l.Bounds, want) {
		t.Error("bounds", l.Bounds)
	}
	if !slices.Equal(l.Words, words(t, nop, nop, brk)) || l.End() != base+12 {
		t.Error(l.Words, l.End())
	}
}

// P25.1: no lines are no words.
func TestNone(t *testing.T) {
	if l := must(t, least); len(l.Words)+len(l.Labels)+len(l.Bounds) != 0 || l.End() != base {
		t.Errorf("%+v", l)
	}
}

// P25.2.
func TestFind(t *testing.T) {
	l := must(t, most, label(5), does(nop), emit.Line{Label: true, To: 5, Ver: 1}, bound(6), does(nop), label(0))
	for _, x := range []struct {
		to   uint64
		ver  int
		at   uint64
		want bool
	}{{5, 0, base, true}, {5, 1, base + 4, true}, {0, 0, base + 8, true}, {6, 0, 0, false}, {5, 2, 0, false}, {5, -1, 0, false}, {0, 1, 0, false}, {1, 5, 0, false}} {
		if at, ok := l.Find(x.to, x.ver); at != x.at || ok != x.want {
			t.Error(x, at, ok)
		}
	}
	if at, ok := (lay.Laid{}).Find(0, 0); at != 0 || ok {
		t.Error(at, ok)
	}
	for _, x := range []struct {
		l    lay.Laid
		want uint64
	}{{lay.Laid{}, 0}, {lay.Laid{Base: 12}, 12}, {lay.Laid{Base: 8, Words: make([]uint32, 3)}, 20}, {lay.Laid{Base: math.MaxUint64 - 7, Words: make([]uint32, 3)}, 4}} {
		if got := x.l.End(); got != x.want {
			t.Error(x.l.Base, got)
		}
	}
}

// Definitions: what refers leads to its label, to fault if there is none, or to find, from where it is.
func TestTargets(t *testing.T) {
	other := emit.Line{Inst: cbz, Ref: emit.Block, To: 3, Ver: 1}
	l := must(t, most, does(nop), to(b, 3), to(bcc, 4), other, search(b), search(cbnz), to(cbz, 3), to(b, 4), emit.Line{Inst: bcc, Ref: emit.Block, To: 3, Ver: 2},
		emit.Line{Inst: b, Ref: emit.Find, To: 3}, label(3), does(nop), emit.Line{Label: true, To: 3, Ver: 1}, bound(4), does(brk))
	want := words(t, nop, off(b, 36), off(bcc, fault-base-8), off(cbz, 32), off(b, find-base-16), off(cbnz, find-base-20), off(cbz, 16),
		off(b, fault-base-28), off(bcc, fault-base-32), off(b, find-base-36), nop, brk)
	if !slices.Equal(l.Words, want) {
		t.Errorf("%x\n%x", l.Words, want)
	}
	// What is not an instruction refers to nothing, whatever else it has.
	l = must(t, most, emit.Line{Label: true, Inst: a64.Inst{Op: -3, Off: 1}, Ref: emit.Block, To: 3}, emit.Line{Bound: true, Inst: bcc, Ref: emit.Find}, does(nop))
	if !slices.Equal(l.Words, words(t, nop)) {
		t.Errorf("%x", l.Words)
	}
}

// Definitions: what is out of reach takes two words, but for a B, also by one word alone, in both directions.
func TestReach(t *testing.T) {
	inverse := map[int]a64.Inst{a64.Bcc: bcc, a64.Cbz: cbnz, a64.Cbnz: cbz}
	for op, i := range inverse {
		i.D = map[int]int{a64.Bcc: 0, a64.Cbz: 5, a64.Cbnz: 1}[op]
		if i.Op == a64.Bcc {
			i.Cond = a64.Lt ^ 1
		}
		inverse[op] = off(i, 8)
	}
	for _, reach := range []int64{least, 17, 18, 19, 20, 1000, 4095, 5003} {
		in := int(reach / 4) // words
		for _, i := range []a64.Inst{b, bcc, cbz, cbnz} {
			for _, n := range []int{0, 1, in - 1, in, in + 1, in + 2, in + 100} {
				ahead := must(t, reach, join(to(i, 7), nops(max(n-1, 0)), label(7), does(brk))...)
				back := must(t, reach, join(label(7), nops(n), to(i, 7))...)
				long, distance := i.Op != a64.B && n > in, int64(4*max(n, 1))
				first, last := ahead.Words[:1], back.Words[n:]
				wantFirst, wantLast := words(t, off(i, distance)), words(t, off(i, -4*int64(n)))
				if long {
					first = ahead.Words[:2]
					wantFirst, wantLast = words(t, inverse[i.Op], off(b, distance)), words(t, inverse[i.Op], off(b, -4*int64(n)-4))
				}
				if !slices.Equal(first, wantFirst) || len(ahead.Words) != len(wantFirst)+max(n-1, 0)+1 {
					t.Errorf("reach %d, %s %d ahead: %x, not %x", reach, a64.Show(i), n, first, wantFirst)
				}
				if !slices.Equal(last, wantLast) {
					t.Errorf("reach %d, %s %d back: %x, not %x", reach, a64.Show(i), n, last, wantLast)
				}
			}
		}
	}
}

// Definitions: the greatest reach, and others, of what is outside of the lines.
func TestReachOutside(t *testing.T) {
	for _, reach := range []int64{least, 18, 1000, most - 4, most} {
		for _, n := range []int64{0, reach &^ 3, reach&^3 + 4, -(reach &^ 3), -(reach &^ 3) - 4, 1 << 20, -1 << 20} {
			for _, i := range []a64.Inst{bcc, cbz, cbnz} {
				want := 1
				if n > reach || n < -reach {
					want = 2
				}
				other := uint64(base + 1<<21)
				if l, e := lay.Lay(base, uint64(base+n), other, reach, search(i)); e != api.OK || len(l.Words) != want {
					t.Errorf("reach %d, search %d away: %d words", reach, n, len(l.Words))
				}
				if l, e := lay.Lay(base, other, uint64(base+n), reach, to(i, 1)); e != api.OK || len(l.Words) != want {
					t.Errorf("reach %d, fault %d away: %d words", reach, n, len(l.Words))
				}
			}
		}
	}
}

// Definitions: the inverse of each condition that has one, and of Cbz and Cbnz, whatever the register.
func TestInverse(t *testing.T) {
	for cond := range 14 {
		i := a64.Inst{Op: a64.Bcc, W: 8, Cond: cond}
		l := must(t, least, to(i, 1))
		i.Cond = []int{1, 0, 3, 2, 5, 4, 7, 6, 9, 8, 11, 10, 13, 12}[cond]
		if want := words(t, off(i, 8), off(b, fault-base-4)); !slices.Equal(l.Words, want) {
			t.Errorf("%x, not %x", l.Words, want)
		}
	}
	for d := range 32 {
		l := must(t, least, search(a64.Inst{Op: a64.Cbz, W: 8, D: d}), search(a64.Inst{Op: a64.Cbnz, W: 8, D: d}))
		want := words(t, a64.Inst{Op: a64.Cbnz, W: 8, D: d, Off: 8}, off(b, find-base-4), a64.Inst{Op: a64.Cbz, W: 8, D: d, Off: 8}, off(b, find-base-12))
		if !slices.Equal(l.Words, want) {
			t.Errorf("%x, not %x", l.Words, want)
		}
	}
}

// Definitions: one that becomes long may take another one out of reach, and so on.
func TestCascade(t *testing.T) {
	// Each reaches four words ahead, just so, across the next one; the last one is too far.
	chain := func(n int, last uint64) []emit.Line {
		var l []emit.Line
		for k := range n {
			l = append(l, label(uint64(k)), to(cbnz, uint64(k)+4))
		}
		for k := range 6 {
			l = append(l, label(uint64(n+k)), does(nop))
		}
		l[2*n-1].To += last
		return l
	}
	for _, n := range []int{1, 2, 3, 4, 5, 50, 3000} {
		if l := must(t, least, chain(n, 0)...); len(l.Words) != n+6 {
			t.Error(n, len(l.Words))
		}
		if l := must(t, least, chain(n, 1)...); len(l.Words) != 2*n+6 {
			t.Error(n, len(l.Words))
		}
	}
}

// Definitions: what has become long stays long, also if what it refers to comes nearer as others grow.
func TestForever(t *testing.T) {
	// The last line is 20 bytes below the address of the search, and 16 once the first one is long.
	l := join(to(cbnz, 7), nops(5), label(7), search(cbz))
	laid, e := lay.Lay(base, base+24+20, base, least, l...)
	if e != api.OK || len(laid.Words) != 9 || laid.Words[8] != words(t, off(b, 12))[0] {
		t.Errorf("%d %x", e, laid.Words)
	}
	// It may come near from above, and go away again below.
	laid, e = lay.Lay(base, base+24, base, least, l...)
	if e != api.OK || len(laid.Words) != 8 || laid.Words[7] != words(t, off(cbz, -4))[0] {
		t.Errorf("%d %x", e, laid.Words)
	}
	laid, e = lay.Lay(base, base+24-16, base, least, l...)
	if e != api.OK || len(laid.Words) != 9 || laid.Words[8] != words(t, off(b, -24))[0] {
		t.Errorf("%d %x", e, laid.Words)
	}
}

// Rule 8: addresses are computed modulo 2^64.
func TestWrap(t *testing.T) {
	const high = math.MaxUint64 - 7
	l, e := lay.Lay(high, 4, high-8, least, to(cbz, 1), search(cbnz), does(nop), label(1), to(bcc, 1), to(b, 2), to(cbnz, 2), search(b))
	// The last but one is 16 bytes above 0, and 24 above fault, so it is long.
	want := words(t, off(cbz, 12), off(cbnz, 8), nop, off(bcc, 0), off(b, -24), a64.Inst{Op: a64.Cbz, W: 8, D: 1, Off: 8}, off(b, -32), off(b, -16))
	if e != api.OK || l.Base != high || !slices.Equal(l.Words, want) || !slices.Equal(l.Labels, []lay.Place{{To: 1, At: 4}}) || l.End() != 24 {
		t.Errorf("%d %+v\n%x\n%x", e, l, l.Words, want)
	}
}

// P25.1: jumps by a distance lead to instructions that stay at that distance.
func TestLocal(t *testing.T) {
	own, grows, stays := does(nop), to(cbz, 1), to(b, 1)
	for _, x := range []struct {
		what string
		l    []emit.Line
		want api.Errno
	}{
		{"itself", join(by(b, 0)), api.OK},
		{"itself, between some that refer", join(grows, by(cbz, 0), grows), api.OK},
		{"the next one", join(by(b, 4), own), api.OK},
		{"the next one, which refers", join(by(b, 4), grows), api.OK},
		{"the next one, behind a label and a bound", join(by(bcc, 4), label(2), bound(2), grows), api.OK},
		{"the one ahead", join(own, by(b, -4)), api.OK},
		{"the one ahead, which refers", join(grows, by(b, -4)), api.ErrArg},
		{"the one ahead, a B that refers", join(stays, by(b, -4)), api.OK},
		{"the one ahead, a B that refers to the search", join(search(b), by(cbz, -4)), api.OK},
		{"the one ahead, which refers to the search", join(search(cbz), by(cbz, -4)), api.ErrArg},
		{"across one that refers", join(by(cbz, 8), grows, own), api.ErrArg},
		{"across one that refers to the search", join(by(cbz, 8), search(bcc), own), api.ErrArg},
		{"across a B that refers", join(by(cbz, 8), stays, own), api.OK},
		{"across the last of three", join(by(cbz, 16), own, own, grows, own), api.ErrArg},
		{"across the first of three", join(by(cbz, 16), grows, own, own, own), api.ErrArg},
		{"behind one that refers", join(grows, by(cbz, 16), own, own, own, grows), api.OK},
		{"back across one that refers", join(own, grows, by(cbnz, -8)), api.ErrArg},
		{"back across a B that refers", join(own, stays, by(cbnz, -8)), api.OK},
		{"back to one that refers", join(grows, own, by(cbnz, -8)), api.ErrArg},
		{"back, behind one that refers", join(grows, own, own, by(cbnz, -8), grows), api.OK},
		{"back across the last", join(own, own, own, grows, by(bcc, -16)), api.ErrArg},
		{"across one that jumps by a distance", join(by(cbz, 8), by(cbz, 4), own), api.OK},
		{"beyond the last one", join(own, by(b, 4)), api.ErrArg},
		{"beyond the last one, where a label is", join(by(cbz, 8), own, label(1)), api.ErrArg},
		{"far beyond", join(by(b, farB), own), api.ErrArg},
		{"farthest", join(by(cbz, most), own), api.ErrArg},
		{"above the first one", join(by(cbz, -4), own), api.ErrArg},
		{"above the first one, where a label is", join(label(1), own, by(b, -8)), api.ErrArg},
		{"far above", join(own, by(b, -1<<27)), api.ErrArg},
		{"the last one", join(by(bcc, 12), own, label(3), own, own), api.OK},
		{"the first one", join(label(3), own, bound(3), own, own, by(bcc, -12)), api.OK},
		{"Br leads anywhere", join(does(a64.Inst{Op: a64.Br, W: 8, N: 3})), api.OK},
	} {
		laid, e := lay.Lay(base, find, fault, least, x.l...)
		if e != x.want || e != api.OK && !zero(laid) {
			t.Errorf("%s: %d", x.what, e)
		}
	}
	// They keep their distance.
	l := must(t, least, grows, by(cbz, 12), own, stays, by(cbnz, -4), grows)
	if want := words(t, off(cbz, 12), nop, off(b, fault-base-16), off(cbnz, -4)); !slices.Equal(l.Words[2:6], want) {
		t.Errorf("%x", l.Words)
	}
}

// P25.1: wrong inputs.
func TestErrArg(t *testing.T) {
	fine := []emit.Line{does(nop), to(b, 1), label(1), does(brk)}
	try := func(base, find, fault uint64, reach int64, want api.Errno, l ...emit.Line) {
		t.Helper()
		if laid, e := lay.Lay(base, find, fault, reach, l...); e != want || e != api.OK && !zero(laid) {
			t.Error(base, find, fault, reach, l, e)
		}
	}
	for n := range uint64(9) {
		want := api.OK
		if n%4 != 0 {
			want = api.ErrArg
		}
		try(base+n, find, fault, most, want, fine...)
		try(base, find+n, fault, most, want, fine...)
		try(base, find, fault+n, most, want, fine...)
		try(base+n, find, fault, most, want)
	}
	for _, reach := range []int64{least, least + 1, least + 3, 1000, most - 1, most} {
		try(base, find, fault, reach, api.OK, fine...)
	}
	for _, reach := range []int64{math.MinInt64, -least, -1, 0, 4, least - 1, most + 1, most + 4, 1 << 20, math.MaxInt64} {
		try(base, find, fault, reach, api.ErrArg, fine...)
		try(base, find, fault, reach, api.ErrArg)
	}
	for _, ref := range []int{-1, 3, 4, math.MinInt, math.MaxInt} {
		for _, bad := range []emit.Line{{Inst: b}, {Inst: nop}, {Label: true}, {Bound: true}} {
			bad.Ref = ref
			try(base, find, fault, most, api.ErrArg, append(slices.Clone(fine), bad)...)
			try(base, find, fault, most, api.ErrArg, bad, does(nop))
		}
	}
	for _, bad := range []emit.Line{
		{}, does(a64.Inst{Op: a64.Nop}), does(a64.Inst{Op: 48, W: 8}), does(a64.Inst{Op: a64.Nop, W: 8, Imm: 1}), does(a64.Inst{Op: a64.Ldr, W: 8, N: 31}),
		by(b, 2), by(cbz, 1), by(bcc, 1<<20), by(b, 1<<27),
		to(off(b, 4), 1), to(off(cbz, -4), 1), to(off(bcc, 2), 1), search(off(b, 8)), to(a64.Inst{Op: a64.B}, 1), to(a64.Inst{Op: a64.Cbz, W: 8, D: 32}, 1), to(a64.Inst{Op: a64.Cbz, W: 8, N: 1}, 1),
		to(nop, 1), to(brk, 1), search(nop), search(a64.Inst{Op: a64.Br, W: 8, N: 30}), to(a64.Inst{Op: a64.Svc, W: 8}, 1), {Ref: emit.Block}, {Ref: emit.Find},
		to(a64.Inst{Op: a64.Bcc, W: 8, Cond: 14}, 1), to(a64.Inst{Op: a64.Bcc, W: 8, Cond: 15}, 1), search(a64.Inst{Op: a64.Bcc, W: 8, Cond: 14}), to(a64.Inst{Op: a64.Bcc, W: 8, Cond: 16}, 1), to(a64.Inst{Op: a64.Bcc, W: 8, Cond: -1}, 1),
	} {
		try(base, find, fault, most, api.ErrArg, bad)
		try(base, find, fault, most, api.ErrArg, join(fine, bad, fine[:1])...)
	}
	// Without a reference, a condition may be any.
	for cond := range 16 {
		try(base, find, fault, most, api.OK, by(a64.Inst{Op: a64.Bcc, W: 8, Cond: cond}, 0))
	}
	// Nothing but B, Bcc, Cbz and Cbnz refers.
	for op := range 50 {
		if i := (a64.Inst{Op: op, W: 8, Imm: 9, M: 1, N: 2}); op != a64.B && op != a64.Bcc && op != a64.Cbz && op != a64.Cbnz {
			try(base, find, fault, most, api.ErrArg, to(i, 1))
		}
	}
}

// P25.1: two labels that are the same.
func TestErrForm(t *testing.T) {
	one := emit.Line{Label: true, To: 5, Ver: 1}
	for _, x := range []struct {
		l    []emit.Line
		want api.Errno
	}{
		{join(one, one), api.ErrForm},
		{join(one, nops(3), label(5), does(nop), one), api.ErrForm},
		{join(label(0), label(0)), api.ErrForm},
		{join(label(0), emit.Line{Label: true, Bound: true}), api.ErrForm},
		{join(one, label(5), label(1), emit.Line{Label: true, To: 1, Ver: 5}), api.OK},
		{join(one, bound(5), bound(5), emit.Line{Bound: true, To: 5, Ver: 1}, to(b, 5)), api.OK},
		// What is named first comes first.
		{join(one, one, emit.Line{}), api.ErrArg},
		{join(one, one, nops(full+1)), api.ErrForm},
	} {
		if laid, e := lay.Lay(base, find, fault, most, x.l...); e != x.want || e != api.OK && !zero(laid) {
			t.Error(len(x.l), e)
		}
	}
}

// P25.1: too many words.
func TestErrSize(t *testing.T) {
	for _, x := range []struct {
		what  string
		l     []emit.Line
		reach int64
		want  api.Errno
	}{
		{"as many as may be", nops(full), least, api.OK},
		{"one more", nops(full + 1), least, api.ErrSize},
		{"labels and bounds are none", join(nops(full), label(1), bound(1), nops(0)), least, api.OK},
		{"as many as may be, one of them long", join(nops(full-2), search(cbz)), least, api.OK},
		{"one more, one of them long", join(nops(full-1), search(cbz)), least, api.ErrSize},
		{"all long", slices.Repeat(join(search(cbz)), full/2), least, api.OK},
		{"all long, and one more", slices.Repeat(join(search(cbz)), full/2+1), least, api.ErrSize},
		{"a great many", nops(2 * full), most, api.ErrSize},
		{"wrong beyond what may be", join(nops(full+1), emit.Line{}), least, api.ErrArg},
	} {
		laid, e := lay.Lay(base, find, fault, x.reach, x.l...)
		if e != x.want || e != api.OK && !zero(laid) || e == api.OK && len(laid.Words) != full {
			t.Errorf("%s: %d, %d words", x.what, e, len(laid.Words))
		}
	}
}

// P25.1: a B that would have to reach too far, also that of a long one.
func TestErrSizeFar(t *testing.T) {
	const at = 1 << 40
	for _, x := range []struct {
		what string
		i    a64.Inst
		to   uint64
		want api.Errno
	}{
		{"far ahead", b, at + farB, api.OK},
		{"too far ahead", b, at + farB + 4, api.ErrSize},
		{"far back", b, at - farB, api.OK},
		{"too far back, though there would be a word", b, at - farB - 4, api.ErrSize},
		{"long, far ahead", cbz, at + 4 + farB, api.OK},
		{"long, too far ahead", bcc, at + 4 + farB + 4, api.ErrSize},
		{"long, far back", cbnz, at + 4 - farB, api.OK},
		{"long, too far back", cbz, at + 4 - farB - 4, api.ErrSize},
		{"as far as can be", b, at + 1<<63, api.ErrSize},
		{"as far as can be, long", cbz, at + 4 + 1<<63, api.ErrSize},
		{"above", b, at + 1<<63 - 4, api.ErrSize},
		{"0", b, 0, api.ErrSize},
	} {
		for _, l := range [][]emit.Line{join(search(x.i)), join(to(x.i, 5))} {
			laid, e := lay.Lay(at, x.to, x.to, most, l...)
			if e != x.want || e != api.OK && !zero(laid) {
				t.Errorf("%s: %d", x.what, e)
			}
		}
		// Nothing that refers to it, no harm.
		if _, e := lay.Lay(at, x.to, x.to, most, does(nop)); e != api.OK {
			t.Error(x.what, e)
		}
	}
}

// Rules 4, 5: lines that are given stay as they are, and what is laid is the caller's.
func TestNew(t *testing.T) {
	l := join(label(1), to(cbz, 9), bound(1), to(b, 1))
	given := slices.Clone(l)
	first := must(t, least, l...)
	if !slices.Equal(l, given) {
		t.Error("changed", l)
	}
	clear(l)
	clear(first.Words)
	clear(first.Labels)
	clear(first.Bounds)
	second := must(t, least, given...)
	if !slices.Equal(second.Words, words(t, a64.Inst{Op: a64.Cbnz, W: 8, D: 5, Off: 8}, off(b, fault-base-4), off(b, -8))) || second.Labels[0].To != 1 || second.Bounds[0].At != base+8 {
		t.Errorf("%+v", second)
	}
}
