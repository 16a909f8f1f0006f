package sel_test

import (
	"fmt"
	"strconv"
	"strings"
	"testing"

	"calque/a64"
	"calque/api"
	"calque/asem"
	"calque/ir"
	"calque/logim"
	"calque/mem"
	"calque/sel"
)

// dice are numbers that look as if they were thrown, always the same ones.
type dice struct{ n uint64 }

func (d *dice) word() uint64 {
	d.n = d.n*6364136223846793005 + 1442695040888963407
	x := d.n ^ d.n>>29
	return x*0x9E3779B97F4A7C15 ^ x>>31
}

func (d *dice) below(n int) int { return int(d.word() >> 33 % uint64(n)) }

// number is a word: small, great, of few parts, or with the thirteen bits of a logical number.
func (d *dice) number() uint64 {
	switch d.below(6) {
	case 0:
		return uint64(d.below(9)) - 4
	case 1:
		n, _ := logim.Decode(uint32(d.below(1 << 13)))
		return n
	case 2:
		return d.word() & [...]uint64{0xFFFF, 0xFFFF_0000, 0xFFFF_0000_0000, 0xFFFF_0000_FFFF_0000, 0xFFFF_FFFF}[d.below(5)]
	case 3:
		return d.word() | [...]uint64{0xFFFF, 0xFFFF_0000, 0xFFFF_0000_0000, 0xFFFF_0000_FFFF_0000, 0xFFFF_FFFF}[d.below(5)]
	case 4:
		return 1 << d.below(64)
	}
	return d.word()
}

// constant is a second reading of which instructions a number takes, by its sixteen digits.
func constant(d int, n uint64) string {
	var l []string
	move := func(op, digits string, part int) {
		v, _ := strconv.ParseUint(digits, 16, 64)
		l = append(l, fmt.Sprintf("%s x%d %d %d", op, d, v, part))
	}
	digits := func(n uint64, part int) string {
		s := fmt.Sprintf("%016x", n)
		return s[12-4*part : 16-4*part]
	}
	count := func(what string) (times, other int) {
		for part := 3; part >= 0; part-- {
			if digits(n, part) == what {
				times++
			} else {
				other = part
			}
		}
		return times, other
	}
	zeros, lowest := count("0000")
	ones, other := count("ffff")
	_, logical := logim.Encode(n)
	switch {
	case zeros >= 3:
		move("movz", digits(n, lowest), lowest)
	case ones >= 3:
		move("movn", digits(all-n, other), other)
	case logical:
		l = append(l, fmt.Sprintf("orri x%d x31 %d", d, n))
	default:
		move("movz", digits(n, lowest), lowest)
		for part := lowest + 1; part < 4; part++ {
			if s := digits(n, part); s != "0000" {
				move("movk", s, part)
			}
		}
	}
	return strings.Join(l, ", ")
}

// P23.1 by the second reading: the instructions, how many they are, and that they change nothing but the register.
func TestConstReading(t *testing.T) {
	d := &dice{1}
	for range 20000 {
		r, n := d.below(31), d.number()
		l := sel.Const(r, n)
		if got, want := text(l), constant(r, n); got != want || len(l) > 4 {
			t.Fatalf("%#x: %s, not %s", n, got, want)
		}
		c := thrown(d)
		want := c
		want.X[r], want.Pc = n, c.Pc+uint64(4*len(l))
		for _, i := range l {
			c.Done(i, 0, true)
		}
		if c != want {
			t.Fatalf("%#x in %d: %+v", n, r, c)
		}
	}
}

// thrown is a cpu whose registers are thrown; some are the addresses of memory.
func thrown(d *dice) asem.Cpu {
	c := asem.Cpu{Flags: asem.Flags{N: d.below(2) == 0, Z: d.below(2) == 0, C: d.below(2) == 0, V: d.below(2) == 0}, Pc: 4 * d.word()}
	for k := range c.X {
		c.X[k] = d.number()
		if d.below(3) == 0 {
			c.X[k] = 1000 + uint64(d.below(40))
		}
	}
	return c
}

// memory is some that may be read in part, and written in part.
func memory() *mem.Mem {
	return mem.New(
		mem.Area{Lo: 1000, Data: []byte("the bytes of an area that may be"), Write: true},
		mem.Area{Lo: 1032, Data: []byte("only read")},
	)
}

// made is a valid step of a kind that has instructions.
func made(d *dice) ir.Op {
	kinds := []int{ir.Const, ir.Get, ir.Put, ir.Alu, ir.Alu, ir.Alu, ir.Ext, ir.Sel, ir.Load, ir.Store, ir.Lx, ir.Fence}
	o := ir.Op{Kind: kinds[d.below(len(kinds))]}
	switch o.Kind {
	case ir.Const:
		o.N = d.number()
	case ir.Get, ir.Put:
		o.N = uint64(d.below(19))
	case ir.Alu:
		o.F = 1 + d.below(16)
	case ir.Fence:
		o.F = 1 + d.below(3)
	case ir.Ext:
		o.W, o.Signed = 1<<d.below(4), d.below(2) == 0
	case ir.Load, ir.Store:
		o.W, o.Ord = 1<<d.below(4), d.below(2)
	case ir.Lx:
		o.W = 1 << d.below(4)
	}
	return o
}

// effect is what layer 13 says of a step by the values that it uses: its value, and whether it may be.
func effect(o ir.Op, c asem.Cpu, v [3]uint64, m *mem.Mem) (uint64, bool) {
	ok := true
	switch o.Kind {
	case ir.Const:
		return o.N, true
	case ir.Get:
		return c.X[o.N], true
	case ir.Alu:
		return ir.Do(o.F, v[0], v[1]), true
	case ir.Ext:
		return extension(v[0], o.W, o.Signed), true
	case ir.Sel:
		if v[0] != 0 {
			return v[1], true
		}
		return v[2], true
	case ir.Load, ir.Lx:
		return m.Load(0, v[0], o.W)
	case ir.Store:
		ok = m.Put(0, v[0], o.W, v[1])
	}
	return v[0], ok
}

// extension is the number of a width of a word, by its digits.
func extension(v uint64, w int, signed bool) uint64 {
	digits := fmt.Sprintf("%064b", v)[64-8*w:]
	if signed {
		digits = strings.Repeat(digits[:1], 64-8*w) + digits
	}
	n, _ := strconv.ParseUint(digits, 2, 64)
	return n
}

// P23.3, P23.4: executed with any registers, the instructions do what the step does, whichever registers are used.
func TestStepReading(t *testing.T) {
	d := &dice{2}
	pairs := []int{0, 1, 2, 18, 19, 24, 30}
	register := func() int {
		if d.below(2) == 0 {
			return pairs[d.below(len(pairs))]
		}
		return d.below(31)
	}
	faults, same := 0, 0
	for range 60000 {
		o, r := made(d), [4]int{register(), register(), register(), register()}
		if d.below(3) == 0 {
			r[0] = r[1+d.below(3)]
			same++
		}
		l, ok := sel.Step(o, r[0], r[1], r[2], r[3])
		if !ok || len(l) == 0 || len(l) > 5 {
			t.Fatalf("%+v: %s %v", o, text(l), ok)
		}
		c, m, n := thrown(d), memory(), memory()
		want := c
		v, may := effect(o, c, [3]uint64{c.X[r[1]], c.X[r[2]], c.X[r[3]]}, n)
		switch {
		case !may:
			faults++
		case o.Kind == ir.Put:
			want.X[o.N] = v
		case o.Makes():
			want.X[r[0]] = v
		}
		end := api.Runs
		for _, i := range l {
			if end == api.Runs {
				end = c.Step(0, i, m, false)
			}
		}
		if c.X != want.X || (end == api.Runs) != may || end != api.Runs && end != api.FaultMem || !m.Same(n) {
			t.Fatalf("%+v %v: %s: %d %+v, not %+v", o, r, text(l), end, c, want)
		}
	}
	if faults < 100 || same < 100 {
		t.Error("too few", faults, same)
	}
}

// P23.3: an access is one instruction, of the kind that its order asks for.
func TestAccess(t *testing.T) {
	d := &dice{3}
	for range 2000 {
		o := made(d)
		l, _ := sel.Step(o, 1, 2, 3, 4)
		var a asem.Access
		for _, i := range l {
			if b := new(asem.Cpu).Need(i); b != (asem.Access{}) {
				a = b
			}
		}
		strong := o.Ord == ir.Strong
		want := asem.Access{W: o.W}
		switch o.Kind {
		case ir.Load:
			want.Load, want.Acq = true, strong
		case ir.Lx:
			want.Load, want.Acq, want.Ex = true, true, true
		case ir.Store:
			want.Store, want.Rel = true, strong
		default:
			want.W = 0
		}
		if a != want || want.W > 0 && len(l) != 1 {
			t.Fatalf("%+v: %s: %+v", o, text(l), a)
		}
		if o.Kind == ir.Load && strong != (l[0].Op == a64.Ldapr) {
			t.Fatalf("%+v: %s", o, text(l))
		}
	}
}
