package fence_test

import (
	"math"
	"slices"
	"strings"
	"testing"

	"calque/api"
	"calque/fence"
	"calque/ir"
	"calque/lift"
	"calque/order"
	"calque/xinst"
)

// kinds are the letters of steps, by their kinds: a Load r, a Store w, an Lx x, an Sx y; a fence has one of its own.
const kinds = ".......rwxy..."

// fences are the letters of fences, by their numbers: a Full, a Loads, a Stores.
const fences = ".fls"

// letter is the letter of a step, or a point.
func letter(o ir.Op) byte {
	if o.Kind == ir.Fence {
		return fences[o.F]
	}
	return kinds[o.Kind]
}

// word tells the accesses and fences of codes, with a stroke between two codes.
func word(l []ir.Code) string {
	var words []string
	for _, c := range l {
		s := ""
		for _, o := range c.Ops {
			s += string(letter(o))
		}
		words = append(words, strings.ReplaceAll(s, ".", ""))
	}
	return strings.Join(words, "|")
}

// builder makes code of letters. What it reads is put in cell 3, and what it writes was read last.
type builder struct {
	ir.Maker
	at, value int // steps, if there are any yet
}

// add adds a step, or what a letter stands for.
func (b *builder) add(letter rune) {
	if f := strings.IndexRune(fences, letter); f > 0 {
		b.Maker.Add(ir.Op{Kind: ir.Fence, F: f})
		return
	}
	if b.at < 0 {
		b.at = b.Const(72)
		b.value = b.at
	}
	switch letter {
	case 'r':
		b.value = b.Maker.Add(ir.Op{Kind: ir.Load, W: 2, A: b.at})
		b.Put(3, b.value)
	case 'w':
		b.Maker.Add(ir.Op{Kind: ir.Store, W: 4, A: b.at, B: b.value})
	case 'x':
		v := b.Maker.Add(ir.Op{Kind: ir.Lx, W: 8, A: b.at})
		b.value = b.Alu(ir.Add, v, b.value)
	case 'y':
		b.Maker.Add(ir.Op{Kind: ir.Sx, W: 8, A: b.at, B: b.value})
	}
}

// codes are codes of a word, each of which continues at the next one.
func codes(word string) []ir.Code {
	var l []ir.Code
	for k, s := range strings.Split(word, "|") {
		b := builder{at: -1}
		b.At, b.Next = uint64(k), uint64(k+1)
		for _, letter := range s {
			b.add(letter)
		}
		b.End = ir.End{Kind: ir.Goto, To: b.Next}
		if b.at >= 0 {
			b.End = ir.End{Kind: ir.If, A: b.value, To: b.Next, Else: b.Next}
		}
		l = append(l, b.Code)
	}
	return l
}

// same reports whether codes are equal.
func same(c, d ir.Code) bool {
	return c.At == d.At && c.Next == d.Next && c.End == d.End && slices.Equal(c.Ops, d.Ops)
}

// P18.1: what is left of words, by hand.
func TestMerge(t *testing.T) {
	for _, x := range []struct{ word, want string }{
		{"", ""}, {"|", "|"}, {"f", "f"}, {"l", "l"}, {"s", "s"}, {"rwxy", "rwxy"},
		// A Full behind others:
		{"ff", "f"}, {"fff", "f"}, {"lf", "f"}, {"sf", "f"}, {"lsf", "f"}, {"frf", "frf"}, {"fwf", "fwf"}, {"fxyf", "fxyf"}, {"flf", "f"}, {"fsf", "f"},
		{"lff", "f"}, {"rlf", "rf"}, {"rlwf", "rlwf"}, {"wsf", "wf"}, {"wsrf", "wsrf"},
		// A Loads behind others:
		{"ll", "l"}, {"fl", "f"}, {"sl", "sl"}, {"lrl", "lrl"}, {"lwl", "lw"}, {"lwwl", "lww"}, {"frl", "frl"}, {"fwl", "fw"}, {"lxyl", "lxyl"}, {"fxyl", "fxyl"}, {"lsl", "ls"}, {"fwsl", "fws"},
		// A Stores behind others:
		{"ss", "s"}, {"fs", "f"}, {"ls", "ls"}, {"sws", "sws"}, {"srs", "sr"}, {"srrs", "srr"}, {"fws", "fws"}, {"frs", "fr"}, {"sxys", "sxys"}, {"fxys", "fxys"}, {"sls", "sl"}, {"frls", "frl"},
		// Those that remain count, and no others:
		{"fwlwl", "fww"}, {"lwlwl", "lww"}, {"srsrs", "srr"}, {"fwlrl", "fwrl"}, {"frswsrs", "frwsr"}, {"lrlfl", "lrf"}, {"wsfs", "wf"}, {"lsflsf", "f"}, {"lsflswlsf", "fwf"}, {"lsrlslf", "lsrf"},
		// From the last one on:
		{"rlswf", "rlswf"}, {"rlsf", "rf"}, {"wslf", "wf"}, {"lwslf", "lwf"}, {"slrf", "slrf"}, {"frlsfwlf", "frfwf"},
		// In several codes:
		{"f|f", "f|"}, {"f|r|f", "f|r|f"}, {"l|w|l", "l|w|"}, {"s|r|s", "s|r|"}, {"s||s", "s||"}, {"rl|||f", "r|||f"}, {"rls|fl|f", "r|f|"}, {"|l|s|f|", "|||f|"}, {"fxyf|fxyf", "fxyf|xyf"}, {"fxyf|rl|fxyf", "fxyf|r|fxyf"},
		{"rl|sw", "rl|sw"}, {"rl|rl|sw|sw", "rl|rl|sw|sw"}, {"rl|fxyf|sw", "r|fxyf|w"}, {"sw|fxyf|rl", "sw|fxyf|rl"},
	} {
		l := codes(x.word)
		got := fence.Merge(l...)
		if word(got) != x.want || !slices.EqualFunc(got, merged(l), same) {
			t.Errorf("%s: %s, not %s", x.word, word(got), x.want)
		}
		if n, want := fence.Count(got...), strings.Count(x.want, "f")+strings.Count(x.want, "l")+strings.Count(x.want, "s"); n != want {
			t.Errorf("%s: %d fences", x.want, n)
		}
	}
}

// P18.1: the examples.
func TestExamples(t *testing.T) {
	add := xinst.Inst{Op: xinst.Add, W: 8, A: xinst.M(3, xinst.No, 1, 0), B: xinst.R(1), Lock: true, Len: 4}
	l, e := lift.All(0, add, add)
	if got := fence.Merge(l...); e != api.OK || word(l) != "fxyf|fxyf" || word(got) != "fxyf|xyf" || fence.Count(l...) != 4 || fence.Count(got...) != 3 {
		t.Error(e, word(l), word(got))
	}
	l, e = lift.All(0, xinst.Inst{Op: xinst.Mov, W: 8, A: xinst.R(0), B: xinst.M(3, xinst.No, 1, 0), Len: 3}, xinst.Inst{Op: xinst.Mov, W: 8, A: xinst.M(5, xinst.No, 1, 0), B: xinst.R(0), Len: 3})
	l = order.Mark(order.Fences, nil, l...)
	if got := fence.Merge(l...); e != api.OK || word(l) != "rl|sw" || word(got) != "rl|sw" {
		t.Error(e, word(l), word(got))
	}
}

// P18.1: steps are renumbered, also behind a step 0 that goes, which is what fields say that name no step; everything else stays.
func TestMergeNumbers(t *testing.T) {
	full, loads := ir.Op{Kind: ir.Fence, F: ir.Full}, ir.Op{Kind: ir.Fence, F: ir.Loads}
	first := ir.Code{Ops: []ir.Op{full}, End: ir.End{Kind: ir.Goto}}
	c := ir.Code{At: 1, Next: 2, Ops: []ir.Op{loads, {Kind: ir.Const, N: 7}, full, {Kind: ir.Load, W: 8, A: 1, Ord: ir.Strong}, loads, {Kind: ir.Alu, F: ir.Sub, A: 3, B: 1}, {Kind: ir.Sel, A: 1, B: 5, C: 3}, full,
		{Kind: ir.Skip, N: 6, A: 6}, {Kind: ir.Trap, N: 2, A: 1}, {Kind: ir.Put, N: 5, A: 6}, full, {Kind: ir.Store, W: 1, A: 3, B: 5}, {Kind: ir.Ext, W: 2, A: 5, Signed: true}, full}}
	want := "v0 = const 7; v1 = load.8 v0 !; v2 = sub v1 v0; v3 = sel v0 v2 v1; fence 1; skip 6 v3; trap 2 v0; put 5 v3; store.1 v1 v2; v9 = ext.2s v2; fence 1"
	for _, x := range []struct{ end, want ir.End }{
		{ir.End{Kind: ir.Goto, To: 2}, ir.End{Kind: ir.Goto, To: 2}},
		{ir.End{Kind: ir.If, A: 5, To: 5, Else: 6}, ir.End{Kind: ir.If, A: 2, To: 5, Else: 6}},
		{ir.End{Kind: ir.Jump, A: 1}, ir.End{Kind: ir.Jump}},
		{ir.End{Kind: ir.Jump, A: 13}, ir.End{Kind: ir.Jump, A: 9}},
		{ir.End{Kind: ir.Sys, To: 5}, ir.End{Kind: ir.Sys, To: 5}},
		{ir.End{Kind: ir.Stop, A: 5}, ir.End{Kind: ir.Stop, A: 5}},
	} {
		c.End = x.end
		got := fence.Merge(first, c)
		if len(got) != 2 || !same(got[0], first) || !ir.May(got[1]) || strings.Join(ir.Show(got[1]), "; ") != want {
			t.Errorf("%+v: %+v", x.end, got)
			continue
		}
		if got[1].End != x.want || got[1].At != 1 || got[1].Next != 2 {
			t.Errorf("%+v: %+v", x.end, got[1])
		}
	}
}

// P18.1: if a code is not valid, nothing is removed from any.
func TestMergeWrong(t *testing.T) {
	good := codes("lsff|fls")
	for _, bad := range []ir.Code{{}, {Ops: good[0].Ops}, {Ops: []ir.Op{{Kind: 99}}, End: ir.End{Kind: ir.Goto}}, {Ops: []ir.Op{{Kind: ir.Fence, F: 4}}, End: ir.End{Kind: ir.Goto}},
		{Ops: []ir.Op{{Kind: ir.Fence, F: math.MinInt}}, End: ir.End{Kind: ir.Goto}}, {At: 1, Next: 2, Ops: []ir.Op{{Kind: ir.Fence, F: 1}, {Kind: ir.Put, A: math.MaxInt}}, End: ir.End{Kind: ir.Goto}},
		{Ops: good[0].Ops, End: ir.End{Kind: ir.Jump, A: -1}}, {Ops: slices.Repeat(good[0].Ops, 63), End: ir.End{Kind: ir.Goto}}} {
		for _, l := range [][]ir.Code{{bad}, {bad, good[0]}, {good[0], bad}, {good[0], good[1], bad}, {good[0], bad, good[1]}} {
			if got := fence.Merge(l...); !slices.EqualFunc(got, l, same) {
				t.Errorf("%+v: %+v", l, got)
			}
		}
	}
	if got := fence.Merge(); len(got) != 0 {
		t.Error("no codes", got)
	}
}

// P18.1: code of as many steps as there may be.
func TestMergeMost(t *testing.T) {
	for _, x := range []struct{ word, want string }{
		{strings.Repeat("f", 250), "f"}, {strings.Repeat("ls", 125), "ls"}, {strings.Repeat("l", 249) + "f", "f"}, {strings.Repeat("w", 248) + "f", strings.Repeat("w", 248) + "f"},
	} {
		got := fence.Merge(codes(x.word + "|" + x.word + "|s")...)
		if one := fence.Merge(codes(x.word)...); word(one) != x.want || len(got) != 3 || word(got[:1]) != x.want {
			t.Errorf("%s: %s %s", x.word, word(one), word(got))
		}
	}
}

// P18.2: the number of fences, of all three, whether codes are valid or not.
func TestCount(t *testing.T) {
	for _, x := range []struct {
		word string
		want int
	}{
		{"", 0}, {"|", 0}, {"rwxy|w", 0}, {"f", 1}, {"l", 1}, {"s", 1}, {"fls", 3}, {"fff|ll||s", 6}, {"frlswfxyf", 5}, {strings.Repeat("f", 250), 250},
	} {
		if got := fence.Count(codes(x.word)...); got != x.want {
			t.Errorf("%s: %d, not %d", x.word, got, x.want)
		}
	}
	if got := fence.Count(); got != 0 {
		t.Error("no codes", got)
	}
	bad := ir.Code{Ops: []ir.Op{{Kind: ir.Fence, F: 1}, {Kind: 99, F: 1}, {Kind: ir.Fence, F: 2}}}
	if got := fence.Count(bad, ir.Code{}, codes("s")[0]); got != 3 {
		t.Error("not valid", got)
	}
}

// P18.1: no argument is changed, and no result shares memory with one, nor with another.
func TestMergeShares(t *testing.T) {
	for _, bad := range []bool{false, true} {
		l := codes("flwfr|fw|r")
		if bad {
			l = append(l, ir.Code{Ops: []ir.Op{{Kind: 99}}})
		}
		before := make([]ir.Code, len(l))
		for k, c := range l {
			before[k] = c
			before[k].Ops = slices.Clone(c.Ops)
		}
		first, second, want := fence.Merge(l...), fence.Merge(l...), fence.Merge(before...)
		if !slices.EqualFunc(l, before, same) {
			t.Fatal("an argument is changed", l)
		}
		for k := range first {
			for range 4 {
				_ = append(first[k].Ops, ir.Op{Kind: 77})
			}
			clear(first[k].Ops)
			clear(l[k].Ops)
		}
		clear(l)
		if !slices.EqualFunc(second, want, same) || same(first[0], second[0]) {
			t.Error("results share memory", first, second)
		}
	}
}
