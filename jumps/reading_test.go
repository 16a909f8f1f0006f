package jumps_test

import (
	"slices"
	"strconv"
	"strings"
	"testing"

	"calque/jumps"
	"calque/mem"
	"calque/xflag"
	"calque/xinst"
	"calque/xsem"
)

// reading is a second reading of the document, from an instruction's text.
type reading struct {
	name     string // of the operation
	sized    string // the name, a point and the width
	operands []string
	rep      bool
}

// read takes the text of an instruction apart.
func read(i xinst.Inst) reading {
	s := strings.TrimPrefix(xinst.Show(i), "lock ")
	r := reading{rep: strings.HasPrefix(s, "rep ")}
	title, rest, _ := strings.Cut(strings.TrimPrefix(s, "rep "), " ")
	words := strings.Split(title, ".")
	r.name, r.sized = words[0], words[0]+"."+words[1]
	if rest != "" {
		r.operands = strings.Split(rest, ", ")
	}
	return r
}

// among reports whether the operation, or the operation with its width, is one of a list.
func (r reading) among(list string) bool {
	l := strings.Fields(list)
	return slices.Contains(l, r.name) || slices.Contains(l, r.sized)
}

// named are the registers of which the names stand in a text.
func named(s string) uint32 {
	n := uint32(0)
	for _, part := range strings.FieldsFunc(s, func(c rune) bool { return strings.ContainsRune("[]+*", c) }) {
		if reg, e := strconv.Atoi(strings.TrimPrefix(part, "r")); e == nil && part[0] == 'r' {
			n |= 1 << reg
		}
	}
	return n
}

// isReg reports whether an operand is a register.
func isReg(s string) bool { return s[0] == 'r' }

func (r reading) reads() uint32 {
	n := uint32(0)
	for k, o := range r.operands {
		kept := r.among("mov movzx movsx lea pop set imuli") && !r.among("mov.1 set.1 mov.2 movzx.2 movsx.2 lea.2 imuli.2")
		if !isReg(o) || k != 0 || !kept {
			n |= named(o)
		}
	}
	for _, x := range []struct {
		list string
		regs uint32
	}{
		{"push pop call ret", 1 << 4},
		{"mul smul wide sign", 1 << 0},
		{"mul.2 smul.2 sign.2", 1 << 2},
		{"div sdiv", 1<<0 | 1<<2},
		{"cas", 1 << 0},
		{"movs", 1<<6 | 1<<7},
		{"stos", 1<<0 | 1<<7},
		{"sys", 1<<0 | 1<<6 | 1<<7},
	} {
		if r.among(x.list) {
			n |= x.regs
		}
	}
	if r.rep {
		n |= 1 << 1
	}
	return n
}

func (r reading) writes() uint32 {
	n := uint32(0)
	for k, o := range r.operands {
		changed := k == 0 && !r.among("cmp test push mul smul div sdiv jmp call") || k == 1 && r.among("xchg xadd")
		if isReg(o) && changed {
			n |= named(o)
		}
	}
	for _, x := range []struct {
		list string
		regs uint32
	}{
		{"push pop call ret", 1 << 4},
		{"mul smul div sdiv cas wide", 1 << 0},
		{"mul.2 mul.4 mul.8 smul.2 smul.4 smul.8 div.2 div.4 sdiv.2 sdiv.4 sign", 1 << 2},
		{"movs", 1<<6 | 1<<7},
		{"stos", 1 << 7},
		{"sys", 1<<0 | 1<<1 | 1<<11},
	} {
		if r.among(x.list) {
			n |= x.regs
		}
	}
	if r.rep {
		n |= 1 << 1
	}
	return n
}

// operands are some of each kind.
func operands() []xinst.Opd {
	l := []xinst.Opd{{}, xinst.I()}
	for reg := range 16 {
		l = append(l, xinst.R(reg))
	}
	for _, a := range [][3]int{{-1, -1, 1}, {16, -1, 1}, {0, -1, 1}, {4, -1, 1}, {15, -1, 1}, {-1, 1, 8}, {-1, 13, 2}, {3, 3, 1}, {2, 7, 1}, {6, 0, 4}, {4, 5, 2}} {
		l = append(l, xinst.M(a[0], a[1], a[2], 64))
	}
	return l
}

// insts calls a function for instructions of every form.
func insts(do func(i xinst.Inst)) {
	opds := operands()
	for op := range xinst.Ud + 1 {
		for _, w := range []int{1, 2, 4, 8} {
			for k := range 4 * 2 * 2 * 2 {
				i := xinst.Inst{Op: op, W: w, W2: []int{0, 1, 2, 4}[k%4], Cc: k / 4 % 2 * 5, Lock: k/8%2 == 1, Rep: k/16%2 == 1, Len: 5}
				for _, i.A = range opds {
					for _, i.B = range opds {
						if xinst.May(i) {
							do(i)
						}
					}
				}
			}
		}
	}
}

// P11.1: all forms of all instructions.
func TestSets(t *testing.T) {
	forms := map[int]int{}
	insts(func(i xinst.Inst) {
		forms[i.Op]++
		r := read(i)
		if got, want := jumps.Reads(i), r.reads(); got != want {
			t.Errorf("%s: reads %b, not %b", xinst.Show(i), got, want)
		}
		if got, want := jumps.Writes(i), r.writes(); got != want {
			t.Errorf("%s: writes %b, not %b", xinst.Show(i), got, want)
		}
	})
	for op := xinst.Add; op <= xinst.Ud; op++ {
		if forms[op] == 0 {
			t.Error("no instruction of operation", op)
		}
	}
}

// dice are numbers that look as if they were thrown, always the same ones.
type dice struct{ n uint64 }

func (d *dice) word() uint64 {
	d.n = d.n*6364136223846793005 + 1442695040888963407
	x := d.n ^ d.n>>29
	return x*0x9E3779B97F4A7C15 ^ x>>31
}

func (d *dice) below(n int) int { return int(d.word() >> 33 % uint64(n)) }

// number is often one of an address that there is.
func (d *dice) number() uint64 {
	switch d.below(8) {
	case 0:
		return d.word()
	case 1:
		return uint64(d.below(3))
	}
	return uint64(d.below(300))
}

// cpu is any one.
func (d *dice) cpu() xsem.Cpu {
	c := xsem.Cpu{Thunk: xflag.Thunk{C: d.below(2) == 0, O: d.below(2) == 0, Res: d.number()}, Ip: d.number()}
	for k := range c.Reg {
		c.Reg[k] = d.number()
	}
	return c
}

// other is the cpu with other numbers in the registers that are not in a set.
func (d *dice) other(c xsem.Cpu, kept uint32) xsem.Cpu {
	for k := range c.Reg {
		if kept>>k&1 == 0 {
			c.Reg[k] = d.number()
		}
	}
	return c
}

// world is memory of some bytes; a store waits in a buffer.
func (d *dice) world() *mem.Mem {
	b := make([]byte, 1024)
	for k := range b {
		b[k] = byte(d.word() >> 40)
	}
	m := mem.New(mem.Area{Lo: 0, Data: b, Write: true})
	m.Store(0, 100, 8, d.word())
	return m
}

// P11.4: what is not in Writes is unchanged, and what is not in Reads has no influence.
func TestInfluence(t *testing.T) {
	d := &dice{1}
	world := d.world()
	ends := map[int]int{}
	insts(func(i xinst.Inst) {
		i.Imm = int64(d.below(100))
		if !xinst.May(i) {
			i.Imm = 0
		}
		reads, writes := jumps.Reads(i), jumps.Writes(i)
		for range 2 {
			c := d.cpu()
			o := d.other(c, reads)
			after, afterOther, m, n := c, o, world.Copy(), world.Copy()
			end, endOther := after.Step(0, i, m), afterOther.Step(0, i, n)
			ends[end]++
			for k := range c.Reg {
				written := writes>>k&1 == 1 && after.Reg[k] == afterOther.Reg[k]
				if !written && (after.Reg[k] != c.Reg[k] || afterOther.Reg[k] != o.Reg[k]) {
					t.Fatalf("%s: register %d: %d to %d, %d to %d", xinst.Show(i), k, c.Reg[k], after.Reg[k], o.Reg[k], afterOther.Reg[k])
				}
			}
			afterOther.Reg = after.Reg
			if end != endOther || after != afterOther || m.Pending(0) != n.Pending(0) {
				t.Fatalf("%s: %d %+v, not %d %+v", xinst.Show(i), end, after, endOther, afterOther)
			}
			m.Flush(0)
			n.Flush(0)
			if !m.Same(n) {
				t.Fatalf("%s: memory differs", xinst.Show(i))
			}
		}
	})
	for _, end := range []int{0, 2, 3, 4, 7} {
		if ends[end] == 0 {
			t.Error("no step ends with", end)
		}
	}
}
