package ir_test

import (
	"math"
	"slices"
	"strconv"
	"strings"
	"testing"

	"calque/api"
	"calque/ir"
	"calque/mem"
)

// fields are those that a kind has, as the document's table tells them: A, B, C steps; N any number, c a cell, t a fault; f a function, g a fence; W a width; s Signed; o Ord.
func fields() []string {
	return []string{"", "N", "c", "cA", "fAB", "WAs", "ABC", "WAo", "WABo", "WA", "WAB", "g", "tA", "NA"}
}

// value reports whether a step may be used behind k steps.
func value(c ir.Code, k, n int) bool {
	return n >= 0 && n < k && slices.Contains([]int{ir.Const, ir.Get, ir.Alu, ir.Ext, ir.Sel, ir.Load, ir.Lx}, c.Ops[n].Kind)
}

// validStep is a second reading of which steps are valid: each field is as the table says, or it is zero.
func validStep(c ir.Code, k int) bool {
	o := c.Ops[k]
	if o.Kind < 1 || o.Kind > 13 {
		return false
	}
	good := true
	for _, f := range fields()[o.Kind] {
		switch f {
		case 'A':
			good, o.A = good && value(c, k, o.A), 0
		case 'B':
			good, o.B = good && value(c, k, o.B), 0
		case 'C':
			good, o.C = good && value(c, k, o.C), 0
		case 'N':
			o.N = 0
		case 'c':
			good, o.N = good && o.N <= 18, 0
		case 't':
			good, o.N = good && o.N >= 1 && o.N <= 6, 0
		case 'f':
			good, o.F = good && o.F >= 1 && o.F <= 16, 0
		case 'g':
			good, o.F = good && o.F >= 1 && o.F <= 3, 0
		case 'W':
			good, o.W = good && slices.Contains(widths, o.W), 0
		case 's':
			o.Signed = false
		case 'o':
			good, o.Ord = good && (o.Ord == 0 || o.Ord == 1), 0
		}
	}
	return good && o == ir.Op{Kind: o.Kind}
}

// validPair is a second reading of how exclusive steps may stand, by a word with a letter for each step.
func validPair(c ir.Code) bool {
	word := ""
	for _, o := range c.Ops {
		word += string(" pp.ppp..LS..."[o.Kind])
	}
	l, s := strings.Count(word, "L"), strings.Count(word, "S")
	if l == 0 && s == 0 {
		return true
	}
	from, to := strings.Index(word, "L"), strings.Index(word, "S")
	if l != 1 || s != 1 || from > to || strings.Trim(word[from+1:to], "p") != "" {
		return false
	}
	return c.Ops[from].A == c.Ops[to].A && c.Ops[from].W == c.Ops[to].W
}

// valid is a second reading of which code is valid.
func valid(c ir.Code) bool {
	if len(c.Ops) > 250 {
		return false
	}
	for k := range c.Ops {
		if !validStep(c, k) {
			return false
		}
	}
	if !validPair(c) {
		return false
	}
	e, step := c.End, value(c, len(c.Ops), c.A)
	switch e.Kind {
	case 1, 4:
		return e == ir.End{Kind: e.Kind, To: e.To}
	case 2:
		return step
	case 3:
		return step && e == ir.End{Kind: 3, A: e.A}
	case 5:
		return e.A >= 1 && e.A <= 6 && e == ir.End{Kind: 5, A: e.A}
	}
	return false
}

// throw is a step behind others, of which most may be. Numbers of steps that produce values are in made.
func (d *dice) throw(made []int) ir.Op {
	use := func() int { return made[d.below(len(made))] }
	o := ir.Op{Kind: 1 + d.below(13)}
	for _, f := range fields()[o.Kind] {
		switch f {
		case 'A':
			o.A = use()
		case 'B':
			o.B = use()
		case 'C':
			o.C = use()
		case 'N':
			o.N = d.number()
			if o.Kind == ir.Const && d.below(2) == 0 {
				o.N = uint64(60 + d.below(40))
			}
		case 'c':
			o.N = uint64(d.below(19))
		case 't':
			o.N = uint64(1 + d.below(6))
		case 'f':
			o.F = 1 + d.below(16)
		case 'g':
			o.F = 1 + d.below(3)
		case 'W':
			o.W = widths[d.below(4)]
		case 's':
			o.Signed = d.below(2) == 0
		case 'o':
			o.Ord = d.below(2)
		}
	}
	return o
}

// code is code of some steps. It is valid, but for exclusive steps that stand as they were thrown.
func (d *dice) code(n int) ir.Code {
	c := ir.Code{At: d.number(), Next: d.number(), Ops: []ir.Op{{Kind: ir.Const, N: uint64(60 + d.below(40))}}}
	made := []int{0}
	for range n {
		o := d.throw(made)
		if leaves := o.Kind == ir.Trap || o.Kind == ir.Skip; leaves && d.below(4) != 0 || (o.Kind == ir.Lx || o.Kind == ir.Sx) && d.below(3) != 0 {
			continue
		}
		c.Ops = append(c.Ops, o)
		if slices.Contains([]int{ir.Const, ir.Get, ir.Alu, ir.Ext, ir.Sel, ir.Load, ir.Lx}, o.Kind) {
			made = append(made, len(c.Ops)-1)
		}
		if o.Kind == ir.Lx && d.below(2) == 0 {
			c.Ops = append(c.Ops, ir.Op{Kind: ir.Sx, W: o.W, A: o.A, B: made[d.below(len(made))]})
		}
	}
	c.End = ir.End{Kind: 1 + d.below(5)}
	switch c.Kind {
	case ir.If:
		c.Else = d.number()
		fallthrough
	case ir.Goto, ir.Sys:
		c.To = d.number()
	case ir.Stop:
		c.A = 1 + d.below(6)
	}
	if c.Kind == ir.If || c.Kind == ir.Jump {
		c.A = made[d.below(len(made))]
	}
	return c
}

// spoil changes one field of code.
func (d *dice) spoil(c ir.Code) ir.Code {
	c.Ops = slices.Clone(c.Ops)
	n := extremes[d.below(len(extremes))]
	o := &c.Ops[d.below(len(c.Ops))]
	switch d.below(13) {
	case 0:
		o.Kind = n
	case 1:
		o.F = n
	case 2:
		o.W = n
	case 3:
		o.A = n
	case 4:
		o.B = n
	case 5:
		o.C = n
	case 6:
		o.N = uint64(n)
	case 7:
		o.Signed = !o.Signed
	case 8:
		o.Ord = n
	case 9:
		c.Kind = n
	case 10:
		c.End.A = n
	case 11:
		c.To = uint64(n)
	case 12:
		c.Else = uint64(n)
	}
	return c
}

// P13.1: many codes, as they were thrown and with one field changed, held against the second reading.
func TestMayMany(t *testing.T) {
	d := &dice{2}
	count := map[bool]int{}
	for range 40000 {
		c := d.code(d.below(12))
		for range 3 {
			got := ir.May(c)
			if got != valid(c) {
				t.Fatalf("%+v: %v", c, got)
			}
			if shown := len(ir.Show(c)); shown != len(c.Ops) && got || shown != 0 && !got {
				t.Fatalf("%+v: %d texts", c, shown)
			}
			count[got]++
			c = d.spoil(c)
		}
	}
	if count[true] < 20000 || count[false] < 20000 {
		t.Error(count)
	}
}

// reading executes code by its texts.
type reading struct {
	cells  map[string]uint64 // by their numbers' texts
	values map[string]uint64 // by the texts of their steps
	t      int
	m      *mem.Mem
}

// number is the number of a text.
func number(s string) uint64 {
	n, _ := strconv.ParseUint(s, 10, 64)
	return n
}

// cut cuts a number to some bytes, by its text in digits of two.
func cut(v uint64, w int, signed bool) uint64 {
	s := strconv.FormatUint(v, 2)
	s = strings.Repeat("0", 64-len(s)) + s
	fill := "0"
	if signed {
		fill = s[64-8*w : 65-8*w]
	}
	n, _ := strconv.ParseUint(strings.Repeat(fill, 64-8*w)+s[64-8*w:], 2, 64)
	return n
}

// line executes a text. It reports whether the code ends there, and how.
func (r *reading) line(s string) (bool, int, uint64) {
	name, s, makes := strings.Cut(s, " = ")
	if !makes {
		s, name = name, ""
	}
	l := strings.Fields(strings.TrimSuffix(s, " !"))
	word, width, _ := strings.Cut(l[0], ".")
	w, _ := strconv.Atoi(strings.TrimSuffix(width, "s"))
	var v []uint64 // of the steps that it uses
	for _, x := range l[1:] {
		if x[0] == 'v' {
			v = append(v, r.values[x])
		}
	}
	got, ok := uint64(0), true
	switch word {
	case "const":
		got = number(l[1])
	case "get":
		got = r.cells[l[1]]
	case "put":
		r.cells[l[1]] = v[0]
	case "ext":
		got = cut(v[0], w, strings.HasSuffix(width, "s"))
	case "sel":
		got = v[2]
		if v[0] != 0 {
			got = v[1]
		}
	case "load":
		got, ok = r.m.Load(r.t, v[0], w)
	case "store":
		ok = r.m.Store(r.t, v[0], w, v[1])
	case "lx":
		r.m.Flush(r.t)
		got, ok = r.m.Load(r.t, v[0], w)
	case "sx":
		ok = r.m.Put(r.t, v[0], w, v[1])
	case "fence":
		if l[1] == "1" {
			r.m.Flush(r.t)
		}
	case "trap":
		if v[0] != 0 {
			return true, int(number(l[1])), 0
		}
	case "skip":
		if v[0] != 0 {
			return true, api.Runs, number(l[1])
		}
	default:
		got = answers(v[0], v[1])[1+slices.Index(strings.Fields("add sub and or xor mul mulu muls divu divs shl shr sar eq ltu lts"), word)]
	}
	r.values[name] = got
	return !ok, api.FaultMem, 0
}

// run executes code, and tells how it ended.
func (r *reading) run(c ir.Code) (int, uint64) {
	for _, s := range ir.Show(c) {
		if ends, how, to := r.line(s); ends {
			return how, to
		}
	}
	a := r.values["v"+strconv.Itoa(c.A)]
	switch {
	case c.Kind == 2 && a == 0:
		return api.Runs, c.Else
	case c.Kind == 3:
		return api.Runs, a
	case c.Kind == 4:
		return api.Calls, c.To
	case c.Kind == 5:
		return c.A, 0
	}
	return api.Runs, c.To
}

// like reports whether memories are the same, now and at each moment while their buffers are drained.
func like(m, n *mem.Mem) bool {
	m, n = m.Copy(), n.Copy()
	for k := range 8 {
		for m.Pending(k) == n.Pending(k) && m.Drain(k) {
			if n.Drain(k); !m.Same(n) {
				return false
			}
		}
		if m.Pending(k) != n.Pending(k) {
			return false
		}
	}
	return m.Same(n)
}

// P13.2, P13.4, P13.5: many codes, held against an execution by their texts.
func TestRunMany(t *testing.T) {
	d := &dice{3}
	ends := map[int]int{}
	for range 20000 {
		c := d.code(d.below(30))
		if !ir.May(c) {
			continue
		}
		m := memory()
		m.Own(d.below(2), 2)
		for range d.below(4) {
			m.Store(d.below(2), uint64(60+d.below(20)), widths[d.below(4)], d.word())
		}
		var s ir.State
		for k := range s.Cell {
			s.Cell[k] = d.number()
		}
		s2, m2, m3 := s, m.Copy(), m.Copy()
		before := ir.Code{At: c.At, Next: c.Next, Ops: slices.Clone(c.Ops), End: c.End}
		r := reading{map[string]uint64{}, map[string]uint64{}, d.below(2), m3}
		for k, v := range s.Cell {
			r.cells[strconv.Itoa(k)] = v
		}
		how, to := ir.Run(c, &s, r.t, m)
		want, wantTo := r.run(c)
		if how != want || to != wantTo || !like(m, m3) {
			t.Fatalf("%q: %d %d, not %d %d", ir.Show(c), how, to, want, wantTo)
		}
		for k, v := range s.Cell {
			if r.cells[strconv.Itoa(k)] != v {
				t.Fatalf("%q: cell %d is %d", ir.Show(c), k, v)
			}
		}
		if how2, to2 := ir.Run(c, &s2, r.t, m2); how2 != how || to2 != to || s2 != s || !like(m, m2) {
			t.Fatalf("%q: another time %d %d", ir.Show(c), how2, to2)
		}
		if !slices.Equal(c.Ops, before.Ops) || c.At != before.At || c.Next != before.Next || c.End != before.End {
			t.Fatalf("%q: changed", ir.Show(before))
		}
		ends[how]++
	}
	for how := range 8 {
		if ends[how] < 100 {
			t.Error("few ends", how, ends)
		}
	}
}

// P13.4: code of pure steps changes neither cells nor memory, and its values are told by cells and by nothing else.
func TestPure(t *testing.T) {
	d := &dice{4}
	for range 5000 {
		c := d.code(30)
		made := []int{0}
		c.Ops = c.Ops[:1]
		for len(c.Ops) < 20 {
			if o := d.throw(made); o.Pure() {
				c.Ops = append(c.Ops, o)
				made = append(made, len(c.Ops)-1)
			}
		}
		c.End = ir.End{Kind: ir.Jump, A: 19}
		var s ir.State
		for k := range s.Cell {
			s.Cell[k] = d.number()
		}
		m, s2 := memory(), s
		m.Store(0, 64, 1, 5)
		n := m.Copy()
		how, to := ir.Run(c, &s, 0, m)
		if how != api.Runs || s != s2 || !like(m, n) {
			t.Fatalf("%q: an effect", ir.Show(c))
		}
		if how2, to2 := ir.Run(c, &s, math.MinInt, nil); how2 != how || to2 != to {
			t.Fatalf("%q: %d, and without memory %d", ir.Show(c), to, to2)
		}
	}
}
