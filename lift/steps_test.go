package lift_test

import (
	"testing"

	"calque/api"
	"calque/ir"
	"calque/lift"
	"calque/mem"
	"calque/xflag"
	"calque/xinst"
	"calque/xsem"
)

// dice are numbers that look as if they were thrown, always the same ones.
type dice struct{ n uint64 }

func (d *dice) word() uint64 {
	d.n = d.n*6364136223846793005 + 1442695040888963407
	x := d.n ^ d.n>>29
	return x*0x9E3779B97F4A7C15 ^ x>>31
}

func (d *dice) below(n int) int { return int(d.word() >> 33 % uint64(n)) }

// number is a word, often a small or a great one.
func (d *dice) number() uint64 {
	switch d.below(4) {
	case 0:
		return uint64(d.below(5)) - 2
	case 1:
		return 1<<(8*widths[d.below(4)]-1) + uint64(d.below(3)) - 1
	}
	return d.word() >> (8 * d.below(8))
}

// spots are the first addresses of areas, and their sizes. The last one ends where programs end.
var spots = [...][2]uint64{{0, 32}, {0x1000, 64}, {0x2000, 32}, {0x3000, 48}, {0x4000, 64}, {user - 24, 24}}

// spot is an address in an area, or near its ends.
func (d *dice) spot() uint64 {
	s := spots[d.below(len(spots))]
	return s[0] + uint64(d.below(int(s[1])+6)) - 3
}

// world is memory with areas of all kinds and stores in buffers.
func (d *dice) world() *mem.Mem {
	var l []mem.Area
	for k, s := range spots {
		b := make([]byte, s[1])
		for n := range b {
			if d.below(3) > 0 {
				b[n] = byte(d.word())
			}
		}
		l = append(l, mem.Area{Lo: s[0], Data: b, Write: k != 2, Private: k == 3})
	}
	m := mem.New(l...)
	m.Own(d.below(2), 3)
	for range d.below(4) {
		m.Store(d.below(2), d.spot(), widths[d.below(4)], d.word())
	}
	return m
}

// cpu is one of which some registers are addresses.
func (d *dice) cpu() xsem.Cpu {
	c := xsem.Cpu{Thunk: xflag.Thunk{C: d.below(2) == 0, O: d.below(2) == 0, Res: d.number()}, Ip: d.number()}
	for k := range c.Reg {
		c.Reg[k] = d.number()
		if d.below(3) == 0 || k == 4 || k == 6 || k == 7 {
			c.Reg[k] = d.spot()
		}
	}
	return c
}

// operand is one of any kind. Many addresses lead into areas.
func (d *dice) operand(c *xsem.Cpu, next uint64) xinst.Opd {
	switch d.below(5) {
	case 0:
		return xinst.Opd{}
	case 1:
		return xinst.R(d.below(16))
	case 2:
		return []xinst.Opd{imm, r1}[d.below(2)]
	}
	o := xinst.M(d.below(18)-1, -1, 1, 0)
	if d.below(2) == 0 && o.Base != 16 {
		o.Index, o.Scale = d.below(16), 1<<d.below(4)
	}
	away := int64(d.spot() - c.At(o.Addr, next))
	if o.Disp = away; away != int64(int32(away)) {
		o.Disp = int64(int32(d.word()))
	}
	return o
}

// inst is a valid instruction with an operation.
func (d *dice) inst(op int, c *xsem.Cpu) xinst.Inst {
	for {
		i := xinst.Inst{Op: op, W: widths[d.below(4)], Len: d.below(16)}
		i.A, i.B = d.operand(c, c.Ip+uint64(i.Len)), d.operand(c, c.Ip+uint64(i.Len))
		i.Lock, i.Rep = d.below(3) == 0, d.below(2) == 0
		if d.below(2) == 0 {
			i.Imm = int64(d.number()<<(56-8*d.below(8))) >> (8 * d.below(8))
		}
		if op == xinst.Movzx || op == xinst.Movsx {
			i.W2 = widths[d.below(3)]
		}
		if op == xinst.Cmov || op == xinst.Set || op == xinst.Jcc {
			i.Cc = d.below(16)
		}
		if xinst.May(i) {
			return i
		}
	}
}

// P14.1, P14.3, P14.4: many instructions of all operations, each held against its step, and in its form.
func TestSteps(t *testing.T) {
	d := &dice{1}
	for op := xinst.Add; op <= xinst.Ud; op++ {
		ends := map[int]int{}
		for range 2000 {
			x := round{c: d.cpu(), t: d.below(2), m: d.world()}
			if d.below(50) == 0 {
				x.t = 7
			}
			x.i = d.inst(op, &x.c)
			code := must(t, x.i, x.c.Ip)
			if code.At != x.c.Ip || code.Next != x.c.Ip+uint64(x.i.Len) {
				t.Fatalf("%s: %+v", xinst.Show(x.i), code)
			}
			formOf(code).check(t, x.i)
			ends[x.compare(t, code)]++
		}
		touches := op != xinst.Lea && op != xinst.Jcc && op < xinst.Wide || op == xinst.Movs || op == xinst.Stos
		if ends[api.Runs]+ends[api.Calls]+ends[api.FaultUd] < 200 || touches && ends[api.FaultMem] < 50 {
			t.Errorf("operation %d: %v", op, ends)
		}
		if divides := op == xinst.Div || op == xinst.Sdiv; divides != (ends[api.FaultDiv] > 50) {
			t.Errorf("operation %d: %v", op, ends)
		}
	}
}

// P14.5: many instructions in a row, as long as each continues with the next one.
func TestRows(t *testing.T) {
	d := &dice{2}
	done := 0
	for range 2000 {
		c, m := d.cpu(), d.world()
		n := m.Copy()
		var l []xinst.Inst
		for range 1 + d.below(12) {
			l = append(l, d.inst(xinst.Add+d.below(xinst.Ud), &c))
		}
		codes, e := lift.All(c.Ip, l...)
		if e != api.OK || len(codes) != len(l) {
			t.Fatal(e, len(codes))
		}
		s := cells(c)
		for k, code := range codes {
			want := c.Step(1, l[k], m)
			end, to := ir.Run(code, &s, 1, n)
			runs := end == api.Runs || end == api.Calls
			if end != want || runs && (to != c.Ip || s != cells(c)) || !like(m, n) {
				t.Fatalf("%d %s: %d, not %d", k, xinst.Show(l[k]), end, want)
			}
			if end != api.Runs || to != code.Next {
				break
			}
			done++
		}
	}
	if done < 1000 {
		t.Error("few steps", done)
	}
}
