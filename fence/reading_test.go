package fence_test

import (
	"slices"
	"strings"
	"testing"

	"calque/api"
	"calque/fence"
	"calque/ir"
	"calque/lift"
	"calque/mem"
	"calque/order"
	"calque/xinst"
)

// between reports whether some of some letters are between two places of a word.
func between(word string, from, to int, some string) bool {
	return strings.ContainsAny(word[from+1:to], some)
}

// needless is a second reading of which fences go, of a word of letters and of points for all other steps: what the document says, fence by fence.
func needless(word string) []bool {
	gone := make([]bool, len(word))
	for n, letter := range word {
		for k, earlier := range word[:n] {
			switch {
			case gone[k]:
			case letter == 'f':
				gone[n] = gone[n] || earlier == 'f' && !between(word, k, n, "rwxy")
			case letter == 'l':
				gone[n] = gone[n] || strings.ContainsRune("fl", earlier) && !between(word, k, n, "rx")
			case letter == 's':
				gone[n] = gone[n] || strings.ContainsRune("fs", earlier) && !between(word, k, n, "wy")
			}
		}
	}
	for n := len(word) - 1; n >= 0; n-- {
		for k := n + 1; k < len(word); k++ {
			if strings.ContainsAny(word[n:n+1], "ls") && word[k] == 'f' && !gone[k] && !between(word, n, k, "rwxy") {
				gone[n] = true
			}
		}
	}
	return gone
}

// removed is code without a fence.
func removed(c ir.Code, n int) ir.Code {
	less := func(p *int) {
		if *p > n {
			*p--
		}
	}
	c.Ops = slices.Delete(slices.Clone(c.Ops), n, n+1)
	for k := range c.Ops {
		o := &c.Ops[k]
		less(&o.A)
		less(&o.B)
		less(&o.C)
	}
	if c.Kind == ir.If || c.Kind == ir.Jump {
		less(&c.A)
	}
	return c
}

// merged is a second reading of Merge, for valid codes.
func merged(l []ir.Code) []ir.Code {
	all := ""
	for _, c := range l {
		for _, o := range c.Ops {
			all += string(letter(o))
		}
	}
	gone := needless(all)
	l = slices.Clone(l)
	for k, c := range l {
		for n := len(c.Ops) - 1; n >= 0; n-- {
			if gone[n] {
				l[k] = removed(l[k], n)
			}
		}
		gone = gone[len(c.Ops):]
	}
	return l
}

// joined is the word of codes without strokes.
func joined(l []ir.Code) string { return strings.ReplaceAll(word(l), "|", "") }

// ordered tells of any two accesses whether fences of a word order them, in the order of the accesses. Before the word and behind it there are accesses of both kinds.
func ordered(word string) []bool {
	word = "rw" + strings.ReplaceAll(word, "|", "") + "rw"
	var l []bool
	for i, x := range word {
		for j := i + 1; j < len(word); j++ {
			if strings.ContainsRune("fls", x) || strings.ContainsAny(word[j:j+1], "fls") {
				continue
			}
			reads, writes := strings.ContainsRune("rx", x), strings.ContainsRune("wy", x) && strings.ContainsAny(word[j:j+1], "wy")
			l = append(l, between(word, i, j, "f") || reads && between(word, i, j, "l") || writes && between(word, i, j, "s"))
		}
	}
	return l
}

// holds holds what is left of codes against them (P18.1 to P18.4).
func holds(t *testing.T, l []ir.Code) []ir.Code {
	t.Helper()
	got := fence.Merge(l...)
	if want := merged(l); !slices.EqualFunc(got, want, same) {
		t.Fatalf("%s: %s, not %s", word(l), word(got), word(want))
	}
	if !slices.Equal(ordered(word(got)), ordered(word(l))) {
		t.Fatalf("%s orders others than %s", word(got), word(l))
	}
	if again := fence.Merge(got...); !slices.EqualFunc(again, got, same) {
		t.Fatalf("%s: %s", word(got), word(again))
	}
	steps := 0
	for k := range l {
		steps += len(l[k].Ops) - len(got[k].Ops)
	}
	if less := fence.Count(l...) - fence.Count(got...); less != steps {
		t.Fatalf("%s: %d fences less than %s", word(got), less, word(l))
	}
	return got
}

// parted is a word of which each part has one exclusive pair at most, as valid code has.
func parted(word string) string {
	l := strings.Split(word, "|")
	for k, s := range l {
		if strings.Count(s, "x") > 1 {
			l[k] = strings.ReplaceAll(s, "x", "|x")
		}
	}
	return strings.Join(l, "|")
}

// P18.1, P18.3, P18.4: all words of up to six accesses and fences, each in one code and cut in two.
func TestAllWords(t *testing.T) {
	letters := []string{"r", "w", "xy", "f", "l", "s"}
	words, fewer := []string{""}, 0
	for range 6 {
		longer := []string{}
		for _, s := range words {
			for _, x := range letters {
				longer = append(longer, s+x)
			}
		}
		for k, s := range longer {
			cut := k % (len(s) + 1)
			if cut < len(s) && s[cut] == 'y' {
				cut++
			}
			one := joined(holds(t, codes(parted(s))))
			if two := joined(holds(t, codes(parted(s[:cut]+"|"+s[cut:])))); one != two {
				t.Fatalf("%s, cut at %d: %s, not %s", s, cut, two, one)
			}
			if len(one) < len(s) {
				fewer++
			}
		}
		words = longer
	}
	if fewer < 20000 {
		t.Error("few fences removed", fewer)
	}
}

// dice are numbers that look as if they were thrown, always the same ones.
type dice struct{ n uint64 }

func (d *dice) below(n int) int {
	d.n = d.n*6364136223846793005 + 1442695040888963407
	return int(d.n >> 33 % uint64(n))
}

// like reports whether memories are the same, now and at each moment while their buffers are drained.
func like(m, n *mem.Mem) bool {
	m, n = m.Copy(), n.Copy()
	for m.Pending(0) == n.Pending(0) && m.Drain(0) {
		if n.Drain(0); !m.Same(n) {
			return false
		}
	}
	return m.Pending(0) == n.Pending(0) && m.Same(n)
}

// effects holds what is left of codes against what they do (P18.4). It returns how many were executed to their ends.
func (d *dice) effects(t *testing.T, l, got []ir.Code) int {
	t.Helper()
	m := mem.New(mem.Area{Lo: 64, Data: make([]byte, 64), Write: true}, mem.Area{Lo: 160, Data: []byte{1, 2, 3, 4, 5, 6, 7, 8}})
	m.Store(0, 70, 8, 0x1122334455667788)
	m2 := m.Copy()
	var s ir.State
	for k := range s.Cell {
		s.Cell[k] = uint64(d.below(140))
	}
	s2 := s
	for k, c := range l {
		how, to := ir.Run(c, &s, 0, m)
		how2, to2 := ir.Run(got[k], &s2, 0, m2)
		if how != how2 || to != to2 || s != s2 || !like(m, m2) {
			t.Fatalf("%q, code %d of %s, does not do what %q does", ir.Show(got[k]), k, word(l), ir.Show(c))
		}
		if how != api.Runs || to != c.Next {
			return k
		}
	}
	return len(l)
}

// P18.1, P18.3, P18.4: many long words in several codes, executed.
func TestMany(t *testing.T) {
	d := &dice{1}
	done := 0
	for range 5000 {
		s := ""
		for range d.below(60) {
			s += []string{"r", "w", "xy", "f", "l", "s", "|", "|"}[d.below(8)]
		}
		l := codes(parted(s))
		done += d.effects(t, l, holds(t, l))
	}
	if done < 30000 {
		t.Error("few codes executed", done)
	}
}

// inst is an instruction that does not leave its block, often one that is locked.
func (d *dice) inst() xinst.Inst {
	opd := func() xinst.Opd {
		return []xinst.Opd{{}, xinst.I(), xinst.R(d.below(16)), xinst.M(d.below(16), xinst.No, 1, int64(d.below(8))), xinst.M(xinst.No, xinst.No, 1, int64(64+d.below(60)))}[d.below(5)]
	}
	for {
		i := xinst.Inst{Op: 1 + d.below(xinst.Ud), W: 1 << d.below(4), A: opd(), B: opd(), Lock: d.below(2) == 0, Len: 1}
		if i.B.Kind == xinst.Imm {
			i.Imm = int64(d.below(100))
		}
		if xinst.May(i) && !i.Ends() {
			return i
		}
	}
}

// P18.1, P18.3, P18.4: codes of many instructions, kept in order by fences.
func TestManyLifted(t *testing.T) {
	d := &dice{2}
	done, fewer := 0, 0
	for range 4000 {
		var l []xinst.Inst
		for range d.below(12) {
			l = append(l, d.inst())
		}
		lifted, e := lift.All(1000, l...)
		if e != api.OK {
			t.Fatal(e)
		}
		alone, _, _ := order.Private(lifted...)
		marked := order.Mark(order.Fences, alone, lifted...)
		got := holds(t, marked)
		done += d.effects(t, lifted, got)
		fewer += fence.Count(marked...) - fence.Count(got...)
	}
	if done < 4000 || fewer < 2000 {
		t.Error("few codes executed, or few fences removed", done, fewer)
	}
}
