package xsem_test

import (
	"bytes"
	"math"
	"slices"
	"testing"

	"calque/api"
	"calque/mem"
	"calque/xflag"
	"calque/xinst"
	"calque/xsem"
)

// dice are numbers that look as if they were thrown, always the same ones.
type dice struct{ n uint64 }

func (d *dice) word() uint64 {
	d.n = d.n*6364136223846793005 + 1442695040888963407
	x := d.n ^ d.n>>29
	return x*0x9E3779B97F4A7C15 ^ x>>31
}

func (d *dice) below(n int) int { return int(d.word() >> 33 % uint64(n)) }

const all = math.MaxUint64

var (
	widths   = []int{1, 2, 4, 8}
	noWidths = []int{0, -1, 3, 5, 6, 7, 9, 16, 64, math.MinInt, math.MaxInt}
	noRegs   = []int{-1, 16, 17, -2, math.MinInt, math.MaxInt}
	noFlags  = xflag.Thunk{}
)

// low is the unsigned number of a width, by shifts.
func low(v uint64, w int) uint64 {
	n := 64 - 8*w
	return v << n >> n
}

// ext is the sign-extended number of a width, by shifts.
func ext(v uint64, w int) uint64 {
	n := 64 - 8*w
	return uint64(int64(v<<n) >> n)
}

// P10.1: a new cpu.
func TestNew(t *testing.T) {
	c := xsem.New(100, 64)
	want := xsem.Cpu{Thunk: xflag.Thunk{Res: 1}, Ip: 100}
	want.Reg[4] = 64
	if *c != want {
		t.Errorf("%+v", *c)
	}
	if c.Zero() || c.Sign() || c.Even() || c.Pack() != 514 {
		t.Error("flags", c.Pack())
	}
	if c = xsem.New(all, 0); c.Ip != all || c.Reg != [16]uint64{} {
		t.Errorf("%+v", *c)
	}
}

// P10.1: registers are read and written with a width; four bytes clear what is above them, one and two do not.
func TestReadWrite(t *testing.T) {
	const old, v = 0x8877665544332211, 0x1F2E3D4C5B6A7988
	after := map[int]uint64{1: 0x8877665544332288, 2: 0x8877665544337988, 4: 0x5B6A7988, 8: v}
	for reg := range 16 {
		for _, w := range widths {
			c := xsem.New(1, 2)
			for k := range c.Reg {
				c.Reg[k] = old + uint64(k)<<32
			}
			want := *c
			if got := c.Read(reg, w); got != low(want.Reg[reg], w) {
				t.Errorf("Read(%d, %d): %x", reg, w, got)
			}
			c.Write(reg, w, v)
			want.Reg[reg] = after[w]
			if w < 4 {
				want.Reg[reg] += uint64(reg) << 32
			}
			if *c != want {
				t.Errorf("Write(%d, %d): %x, not %x", reg, w, c.Reg, want.Reg)
			}
		}
	}
}

// P10.1: no register, no width, no cpu.
func TestReadWriteNone(t *testing.T) {
	c := xsem.New(1, 2)
	for k := range c.Reg {
		c.Reg[k] = all
	}
	before := *c
	var none *xsem.Cpu
	for _, reg := range append(noRegs, 0, 15) {
		for _, w := range append(noWidths, widths...) {
			if reg < 0 || reg > 15 || slices.Contains(noWidths, w) {
				c.Write(reg, w, 5)
				if c.Read(reg, w) != 0 || *c != before {
					t.Error("register", reg, "width", w)
				}
			}
			none.Write(reg, w, 5)
			if none.Read(reg, w) != 0 {
				t.Error("a register of no cpu")
			}
		}
	}
	if none.At(xinst.Addr{Base: 0, Index: -1, Scale: 1, Disp: 5}, 7) != 0 {
		t.Error("an address of no cpu")
	}
}

// P10.1: addresses, also those that are not valid.
func TestAt(t *testing.T) {
	c := xsem.New(5000, 64)
	for k := range c.Reg {
		c.Reg[k] = uint64(k+1) * 1000
	}
	c.Reg[15] = all
	for _, x := range []struct {
		base, index, scale int
		disp               int64
		want               uint64
	}{
		{0, -1, 1, 0, 1000},
		{3, -1, 1, -8, 3992},
		{-1, -1, 1, 64, 64},
		{-1, -1, 1, -1, all},
		{16, -1, 1, 5, 705}, // counted from the next instruction
		{16, -1, 1, -701, all},
		{4, 5, 8, 1, 5000 + 48000 + 1},
		{0, 1, 2, -5001, all},
		{15, 15, 1, 3, 1},
		{-1, 15, 4, 0, all - 3},
		{15, 2, 1, 0, 2999},
		// Not valid:
		{17, -1, 1, 9, 9},
		{-2, -1, 1, 9, 9},
		{math.MinInt, math.MaxInt, math.MaxInt, 9, 9},
		{0, 16, 8, 0, 1000},
		{0, -2, 8, 0, 1000},
		{0, 4, 2, 0, 11000}, // the register 4 is one
		{0, 1, 3, 0, 7000},
		{0, 1, -1, 0, all - 999},
		{0, 1, 0, 0, 1000},
		{0, -1, 5, math.MinInt64, 1<<63 + 1000},
		{0, -1, 1, math.MaxInt64, 1<<63 + 999},
	} {
		if got := c.At(xinst.Addr{Base: x.base, Index: x.index, Scale: x.scale, Disp: x.disp}, 700); got != x.want {
			t.Errorf("%+v: %d", x, got)
		}
	}
}

// The document's example.
func TestExample(t *testing.T) {
	c := xsem.New(100, 64)
	c.Reg[1] = 5
	end := c.Step(0, xinst.Inst{Op: xinst.Add, W: 4, A: xinst.R(1), B: xinst.I(), Imm: -1, Len: 3}, nil)
	if end != api.Runs || c.Reg[1] != 4 || !c.C || c.Ip != 103 {
		t.Errorf("%d %+v", end, *c)
	}
}

// data are the bytes from 4096 on, which may be written; those from 8192 on may be read only.
func data() *mem.Mem {
	b := make([]byte, 64)
	for k := range b {
		b[k] = byte(k)
	}
	return mem.New(mem.Area{Lo: 4096, Data: b, Write: true}, mem.Area{Lo: 8192, Data: b},
		mem.Area{Lo: 12288, Data: b, Write: true, Private: true})
}

// regs are registers by their numbers.
type regs map[int]uint64

// at is the memory at an address.
func at(to int64) xinst.Opd { return xinst.M(-1, -1, 1, to) }

// row is an instruction, and what it does: registers that change, a store, and what else is not as before.
type row struct {
	what  string
	i     xinst.Inst
	have  regs
	flags xflag.Thunk
	want  regs
	after xflag.Thunk
	ip    uint64 // if it is not the next one
	to    uint64 // where it stores
	w     int
	v     uint64
	end   int
}

const (
	base = 0x1122334455667788 // in all registers of which nothing is said
	high = 0x55667788 << 32
	ip   = 300
	size = 7 // of the instruction
)

// check executes a row's instruction.
func (r row) check(t *testing.T) {
	t.Helper()
	m, c := data(), xsem.New(ip, 4128)
	for k := range c.Reg {
		c.Reg[k] = base
	}
	c.Reg[4] = 4128
	for k, v := range r.have {
		c.Reg[k] = v
	}
	c.Thunk = r.flags
	want := *c
	want.Thunk, want.Ip = r.after, ip+size
	for k, v := range r.want {
		want.Reg[k] = v
	}
	if r.ip != 0 {
		want.Ip = r.ip
	}
	r.i.Len = size
	if !xinst.May(r.i) {
		t.Fatalf("%s: not valid", r.what)
	}
	n := m.Copy()
	if r.w != 0 {
		n.Put(0, r.to, r.w, r.v)
	}
	if end := c.Step(0, r.i, m); end != r.end || *c != want {
		t.Errorf("%s: %d %+v, not %+v", r.what, end, *c, want)
	}
	if pending := min(r.w, 1); r.i.Lock != (m.Pending(0) != pending) && r.w != 0 {
		t.Errorf("%s: %d stores", r.what, m.Pending(0))
	}
	if m.Flush(0); !m.Same(n) {
		t.Errorf("%s: memory is not as it should be", r.what)
	}
}

// checkAll executes all rows.
func checkAll(t *testing.T, l []row) {
	t.Helper()
	for _, r := range l {
		r.check(t)
	}
}

// r0, r1 and so on are registers, i an immediate.
var (
	r0, r1, r2, r3, r4 = xinst.R(0), xinst.R(1), xinst.R(2), xinst.R(3), xinst.R(4)
	imm                = xinst.I()
)

// set is a thunk.
func set(c, o bool, res uint64) xflag.Thunk { return xflag.Thunk{C: c, O: o, Res: res} }

// P10.2: moves, by hand.
func TestMoves(t *testing.T) {
	checkAll(t, []row{
		{what: "mov 8", i: xinst.Inst{Op: xinst.Mov, W: 8, A: r0, B: imm, Imm: -2}, want: regs{0: all - 1}},
		{what: "mov 64", i: xinst.Inst{Op: xinst.Mov, W: 8, A: r0, B: imm, Imm: math.MinInt64}, want: regs{0: 1 << 63}},
		{what: "mov 4", i: xinst.Inst{Op: xinst.Mov, W: 4, A: r0, B: imm, Imm: -2}, want: regs{0: 0xFFFFFFFE}},
		{what: "mov 2", i: xinst.Inst{Op: xinst.Mov, W: 2, A: r0, B: imm, Imm: -2}, want: regs{0: 0x112233445566FFFE}},
		{what: "mov 1", i: xinst.Inst{Op: xinst.Mov, W: 1, A: r0, B: imm, Imm: -2}, want: regs{0: 0x11223344556677FE}},
		{what: "mov r4", i: xinst.Inst{Op: xinst.Mov, W: 1, A: xinst.R(6), B: r4}, want: regs{6: 0x1122334455667720}},
		{what: "load", i: xinst.Inst{Op: xinst.Mov, W: 4, A: r0, B: at(4099)}, want: regs{0: 0x06050403}},
		{what: "load 1", i: xinst.Inst{Op: xinst.Mov, W: 1, A: r0, B: at(8200)}, want: regs{0: 0x1122334455667708}},
		{what: "load base", i: xinst.Inst{Op: xinst.Mov, W: 2, A: r4, B: xinst.M(4, 3, 8, -16)}, have: regs{3: 1},
			want: regs{4: 0x1918}},
		{what: "rip", i: xinst.Inst{Op: xinst.Mov, W: 1, A: r0, B: xinst.M(16, -1, 1, 4096-ip-size+9)}, want: regs{0: base&^255 + 9}},
		{what: "store", i: xinst.Inst{Op: xinst.Mov, W: 2, A: at(4100), B: r1}, to: 4100, w: 2, v: 0x7788},
		{what: "store imm", i: xinst.Inst{Op: xinst.Mov, W: 8, A: at(4100), B: imm, Imm: -3}, to: 4100, w: 8, v: all - 2},
		{what: "movzx", i: xinst.Inst{Op: xinst.Movzx, W: 2, W2: 1, A: r0, B: r1}, have: regs{1: 0xFFF0}, want: regs{0: base&^0xFFFF + 0xF0}},
		{what: "movzx 4", i: xinst.Inst{Op: xinst.Movzx, W: 4, W2: 2, A: r0, B: r1}, have: regs{1: 0x7FFF0}, want: regs{0: 0xFFF0}},
		{what: "movzx m", i: xinst.Inst{Op: xinst.Movzx, W: 8, W2: 1, A: r0, B: at(8255)}, want: regs{0: 63}},
		{what: "movsx", i: xinst.Inst{Op: xinst.Movsx, W: 2, W2: 1, A: r0, B: r1}, have: regs{1: 0xF0}, want: regs{0: base&^0xFFFF + 0xFFF0}},
		{what: "movsx 4", i: xinst.Inst{Op: xinst.Movsx, W: 4, W2: 1, A: r0, B: r1}, have: regs{1: 0x80}, want: regs{0: 0xFFFFFF80}},
		{what: "movsx 8", i: xinst.Inst{Op: xinst.Movsx, W: 8, W2: 4, A: r0, B: r1}, have: regs{1: 0x1_8000_0000}, want: regs{0: 0xFFFFFFFF_80000000}},
		{what: "lea", i: xinst.Inst{Op: xinst.Lea, W: 8, A: r0, B: xinst.M(1, 2, 4, -1)}, have: regs{1: 10, 2: 5}, want: regs{0: 29}},
		{what: "lea 4", i: xinst.Inst{Op: xinst.Lea, W: 4, A: r0, B: xinst.M(1, 2, 4, -1)}, have: regs{1: 0, 2: 0}, want: regs{0: 0xFFFFFFFF}},
		{what: "lea rip", i: xinst.Inst{Op: xinst.Lea, W: 2, A: r0, B: xinst.M(16, -1, 1, 1)}, want: regs{0: base&^0xFFFF + ip + size + 1}},
		{what: "xchg", i: xinst.Inst{Op: xinst.Xchg, W: 1, A: r0, B: r1}, have: regs{0: 0x1122, 1: 0x3344}, want: regs{0: 0x1144, 1: 0x3322}},
		{what: "xchg 4", i: xinst.Inst{Op: xinst.Xchg, W: 4, A: r0, B: r1}, have: regs{1: 9}, want: regs{0: 9, 1: 0x55667788}},
		{what: "xchg self", i: xinst.Inst{Op: xinst.Xchg, W: 4, A: r0, B: r0}, want: regs{0: 0x55667788}},
		{what: "cmov", i: xinst.Inst{Op: xinst.Cmov, W: 8, Cc: 2, A: r0, B: at(8192)}, flags: set(true, false, 1), after: set(true, false, 1), want: regs{0: 0x0706050403020100}},
		{what: "cmov not", i: xinst.Inst{Op: xinst.Cmov, W: 4, Cc: 3, A: r0, B: r1}, flags: set(true, false, 1), after: set(true, false, 1), want: regs{0: 0x55667788}},
		{what: "cmov not 2", i: xinst.Inst{Op: xinst.Cmov, W: 2, Cc: 5, A: r0, B: r4}},
		{what: "set", i: xinst.Inst{Op: xinst.Set, W: 1, Cc: 4, A: r0}, want: regs{0: base&^255 + 1}},
		{what: "set not", i: xinst.Inst{Op: xinst.Set, W: 1, Cc: 5, A: r0}, want: regs{0: base &^ 255}},
		{what: "set m", i: xinst.Inst{Op: xinst.Set, W: 1, Cc: 10, A: at(4101)}, to: 4101, w: 1, v: 1},
		{what: "wide 2", i: xinst.Inst{Op: xinst.Wide, W: 2}, want: regs{0: base&^0xFFFF + 0xFF88}},
		{what: "wide 4", i: xinst.Inst{Op: xinst.Wide, W: 4}, want: regs{0: 0x7788}},
		{what: "wide 8", i: xinst.Inst{Op: xinst.Wide, W: 8}, have: regs{0: 0x7_8000_0000}, want: regs{0: 0xFFFFFFFF_80000000}},
		{what: "sign 2", i: xinst.Inst{Op: xinst.Sign, W: 2}, have: regs{0: 0x8000}, want: regs{2: base | 0xFFFF}},
		{what: "sign 4", i: xinst.Inst{Op: xinst.Sign, W: 4}, have: regs{0: 0x8000_0000}, want: regs{2: 0xFFFFFFFF}},
		{what: "sign 8", i: xinst.Inst{Op: xinst.Sign, W: 8}, want: regs{2: 0}},
	})
}

// P10.2: numbers and flags, by hand.
func TestNumbers(t *testing.T) {
	cs := set(true, false, 1)
	checkAll(t, []row{
		{what: "adc", i: xinst.Inst{Op: xinst.Adc, W: 8, A: r0, B: imm, Imm: -1}, have: regs{0: 5}, flags: cs, want: regs{0: 5}, after: set(true, false, 5)},
		{what: "sub 1", i: xinst.Inst{Op: xinst.Sub, W: 1, A: r0, B: r1}, have: regs{0: 0x103, 1: 5}, want: regs{0: 0x1FE}, after: set(true, false, all-1)},
		{what: "sbb m", i: xinst.Inst{Op: xinst.Sbb, W: 2, A: at(4096), B: r1}, have: regs{1: 0x0100}, flags: cs, to: 4096, w: 2, v: 0xFFFF, after: set(true, false, all)},
		{what: "xor 4", i: xinst.Inst{Op: xinst.Xor, W: 4, A: r0, B: r0}, want: regs{0: 0}, flags: cs},
		{what: "or", i: xinst.Inst{Op: xinst.Or, W: 4, A: r0, B: at(8192)}, want: regs{0: 0x57667788}, after: set(false, false, 0x57667788)},
		{what: "and", i: xinst.Inst{Op: xinst.And, W: 2, A: at(4110), B: imm, Imm: 0xF0}, to: 4110, w: 2, v: 0, flags: cs},
		{what: "cmp", i: xinst.Inst{Op: xinst.Cmp, W: 4, A: at(8192), B: imm, Imm: 0x03020100}, flags: cs},
		{what: "cmp r", i: xinst.Inst{Op: xinst.Cmp, W: 1, A: r0, B: r4}, after: set(false, true, 0x68)},
		{what: "test", i: xinst.Inst{Op: xinst.Test, W: 1, A: at(8193), B: r0}, have: regs{0: 3}, flags: cs, after: set(false, false, 1)},
		{what: "inc", i: xinst.Inst{Op: xinst.Inc, W: 1, A: r0}, have: regs{0: 0xFFFF}, flags: cs, want: regs{0: 0xFF00}, after: set(true, false, 0)},
		{what: "dec m", i: xinst.Inst{Op: xinst.Dec, W: 4, A: at(4096)}, flags: cs, to: 4096, w: 4, v: 0x030200FF, after: set(true, false, 0x030200FF)},
		{what: "not", i: xinst.Inst{Op: xinst.Not, W: 4, A: r0}, flags: cs, want: regs{0: 0xAA998877}, after: cs},
		{what: "neg", i: xinst.Inst{Op: xinst.Neg, W: 8, A: r0}, have: regs{0: 1}, want: regs{0: all}, after: set(true, false, all)},
		{what: "mul 1", i: xinst.Inst{Op: xinst.Mul, W: 1, A: r1}, have: regs{0: 0x112233FF, 1: 0xFF}, want: regs{0: 0x1122FE01}, after: set(true, true, 1)},
		{what: "mul 4", i: xinst.Inst{Op: xinst.Mul, W: 4, A: r2}, have: regs{0: high + 1<<31, 2: 6}, want: regs{0: 0, 2: 3}, after: set(true, true, 0)},
		{what: "smul 2", i: xinst.Inst{Op: xinst.Smul, W: 2, A: at(8193)}, have: regs{0: 0xFFFF, 2: base}, want: regs{0: 0xFDFF, 2: base | 0xFFFF}, after: set(false, false, ext(0xFDFF, 2))},
		{what: "smul 8", i: xinst.Inst{Op: xinst.Smul, W: 8, A: r0}, have: regs{0: 1 << 32}, want: regs{0: 0, 2: 1}, after: set(true, true, 0)},
		{what: "div 1", i: xinst.Inst{Op: xinst.Div, W: 1, A: r1}, have: regs{0: 0x77770107, 1: 2}, want: regs{0: 0x77770183}, flags: cs, after: cs},
		{what: "div 4", i: xinst.Inst{Op: xinst.Div, W: 4, A: at(8192)}, have: regs{0: high + 0x03020105, 2: high}, want: regs{0: 1, 2: 5}},
		{what: "sdiv 2", i: xinst.Inst{Op: xinst.Sdiv, W: 2, A: r1}, have: regs{0: 0x5FFF9, 1: 2, 2: 0x6FFFF}, want: regs{0: 0x5FFFD, 2: 0x6FFFF}},
		{what: "sdiv 1", i: xinst.Inst{Op: xinst.Sdiv, W: 1, A: r1}, have: regs{0: 0xFFF9, 1: 0x102}, want: regs{0: 0xFFFD}},
		{what: "imul", i: xinst.Inst{Op: xinst.Imul, W: 4, A: r0, B: r1}, have: regs{0: high + 7, 1: 0xFFFFFFFF}, want: regs{0: 0xFFFFFFF9}, after: set(false, false, all-6)},
		{what: "imul 2", i: xinst.Inst{Op: xinst.Imul, W: 2, A: r0, B: at(8193)}, have: regs{0: 0x10100}, want: regs{0: 0x10100}, after: set(true, true, 0x100)},
		{what: "imuli", i: xinst.Inst{Op: xinst.Imuli, W: 8, A: r0, B: r1, Imm: -3}, have: regs{1: 5}, want: regs{0: all - 14}, after: set(false, false, all-14)},
		{what: "shl", i: xinst.Inst{Op: xinst.Shl, W: 1, A: r0, B: imm, Imm: 1}, have: regs{0: 0x181}, want: regs{0: 0x102}, after: set(true, true, 2)},
		{what: "shl 0", i: xinst.Inst{Op: xinst.Shl, W: 4, A: r0, B: imm, Imm: 32}, flags: cs, want: regs{0: 0x55667788}, after: cs},
		{what: "shr 8", i: xinst.Inst{Op: xinst.Shr, W: 8, A: r0, B: imm, Imm: 255}, have: regs{0: 1 << 63}, want: regs{0: 1}, after: set(false, true, 1)},
		{what: "sar r1", i: xinst.Inst{Op: xinst.Sar, W: 2, A: at(4098), B: r1}, have: regs{1: 0x7701}, to: 4098, w: 2, v: 0x0181, after: set(false, false, 0x181)},
		{what: "rol", i: xinst.Inst{Op: xinst.Rol, W: 8, A: r1, B: r1}, have: regs{1: 4}, flags: cs, want: regs{1: 64}, after: set(false, false, 1)},
		{what: "ror 0", i: xinst.Inst{Op: xinst.Ror, W: 2, A: at(4098), B: r1}, have: regs{1: 0x20}, flags: cs, to: 4098, w: 2, v: 0x0302, after: cs},
	})
}

// P10.2: what is compared and exchanged, by hand.
func TestExchanges(t *testing.T) {
	cs := set(true, false, 1)
	checkAll(t, []row{
		{what: "cas", i: xinst.Inst{Op: xinst.Cas, W: 2, A: at(4098), B: r1}, have: regs{0: base&^0xFFFF + 0x0302}, flags: cs, to: 4098, w: 2, v: 0x7788},
		{what: "cas not", i: xinst.Inst{Op: xinst.Cas, W: 4, A: at(4098), B: r1}, want: regs{0: 0x05040302}, to: 4098, w: 4, v: 0x05040302, after: set(false, false, 0x55667788-0x05040302)},
		{what: "lock cas", i: xinst.Inst{Op: xinst.Cas, W: 1, A: at(4098), B: r1, Lock: true}, have: regs{0: 0xFF02}, to: 4098, w: 1, v: 0x88},
		{what: "cas r", i: xinst.Inst{Op: xinst.Cas, W: 4, A: r3, B: r1}, have: regs{0: 5 + 7<<32, 3: 5 + 9<<32, 1: 6 + 8<<32}, want: regs{3: 6}},
		{what: "cas r not", i: xinst.Inst{Op: xinst.Cas, W: 4, A: r3, B: r1}, have: regs{0: 4, 3: 5 + 9<<32}, want: regs{0: 5}, after: set(true, false, all)},
		{what: "cas r0", i: xinst.Inst{Op: xinst.Cas, W: 8, A: r0, B: r1}, have: regs{1: 9}, want: regs{0: 9}},
		{what: "cas r1 r1", i: xinst.Inst{Op: xinst.Cas, W: 1, A: r1, B: r1}, have: regs{0: 1, 1: 0x502}, want: regs{0: 2}, after: set(true, false, all)},
		{what: "cas at r0", i: xinst.Inst{Op: xinst.Cas, W: 8, A: xinst.M(0, -1, 1, 8), B: r1}, have: regs{0: 4096}, want: regs{0: 0x0F0E0D0C0B0A0908}, to: 4104, w: 8, v: 0x0F0E0D0C0B0A0908,
			after: set(true, false, all-0x0F0E0D0C0B0A0908+4097)},
		{what: "xadd", i: xinst.Inst{Op: xinst.Xadd, W: 1, A: at(4098), B: r1}, want: regs{1: base&^255 + 2}, to: 4098, w: 1, v: 0x8A, after: set(false, false, ext(0x8A, 1))},
		{what: "lock xadd", i: xinst.Inst{Op: xinst.Xadd, W: 4, A: xinst.M(1, -1, 1, 0), B: r1, Lock: true}, have: regs{1: 4096}, want: regs{1: 0x03020100}, to: 4096, w: 4, v: 0x03021100, after: set(false, false, 0x03021100)},
		{what: "xadd r", i: xinst.Inst{Op: xinst.Xadd, W: 4, A: r0, B: r1}, have: regs{0: 7<<32 + 5, 1: 8<<32 + 6}, want: regs{0: 11, 1: 5}, after: set(false, false, 11)},
		{what: "xadd self", i: xinst.Inst{Op: xinst.Xadd, W: 8, A: r0, B: r0}, have: regs{0: 5}, want: regs{0: 10}, after: set(false, false, 10)},
	})
	// An exchange with memory is locked, whatever its prefix.
	m, c := data(), xsem.New(ip, 0)
	c.Reg[1] = 4096
	m.Store(0, 4100, 1, 99)
	if end := c.Step(0, xinst.Inst{Op: xinst.Xchg, W: 4, A: xinst.M(1, -1, 1, 3), B: r1, Len: 2}, m); end != api.Runs || c.Reg[1] != 0x06056303 || m.Pending(0) != 0 {
		t.Errorf("xchg: %d %x", end, c.Reg[1])
	}
	if v, _ := m.Load(1, 4096, 8); v != 0x0700001000020100 {
		t.Errorf("xchg: %x", v)
	}
}

// P10.2: the stack and the flow of control, by hand.
func TestFlow(t *testing.T) {
	cs := set(true, false, 1)
	checkAll(t, []row{
		{what: "push", i: xinst.Inst{Op: xinst.Push, W: 8, A: r0}, want: regs{4: 4120}, to: 4120, w: 8, v: base},
		{what: "push r4", i: xinst.Inst{Op: xinst.Push, W: 8, A: r4}, want: regs{4: 4120}, to: 4120, w: 8, v: 4128},
		{what: "push imm", i: xinst.Inst{Op: xinst.Push, W: 8, A: imm, Imm: -2}, want: regs{4: 4120}, to: 4120, w: 8, v: all - 1},
		{what: "push m", i: xinst.Inst{Op: xinst.Push, W: 8, A: xinst.M(4, -1, 1, 8)}, want: regs{4: 4120}, to: 4120, w: 8, v: 0x2F2E2D2C2B2A2928},
		{what: "pop", i: xinst.Inst{Op: xinst.Pop, W: 8, A: r0}, want: regs{0: 0x2726252423222120, 4: 4136}},
		{what: "pop r4", i: xinst.Inst{Op: xinst.Pop, W: 8, A: r4}, want: regs{4: 0x2726252423222120}},
		{what: "pop m", i: xinst.Inst{Op: xinst.Pop, W: 8, A: xinst.M(4, -1, 1, 0)}, want: regs{4: 4136}, to: 4136, w: 8, v: 0x2726252423222120},
		{what: "pop rip", i: xinst.Inst{Op: xinst.Pop, W: 8, A: xinst.M(16, -1, 1, 4096-ip-size)}, want: regs{4: 4136}, to: 4096, w: 8, v: 0x2726252423222120},
		{what: "jcc", i: xinst.Inst{Op: xinst.Jcc, W: 8, Cc: 2, Imm: -8}, flags: cs, after: cs, ip: ip + size - 8},
		{what: "jcc not", i: xinst.Inst{Op: xinst.Jcc, W: 8, Cc: 3, Imm: -8}, flags: cs, after: cs},
		{what: "jmp", i: xinst.Inst{Op: xinst.Jmp, W: 8, Imm: 1000}, ip: ip + size + 1000},
		{what: "jmp below", i: xinst.Inst{Op: xinst.Jmp, W: 8, Imm: -1 - ip - size}, ip: all},
		{what: "jmp r", i: xinst.Inst{Op: xinst.Jmp, W: 8, A: r3}, ip: base},
		{what: "jmp m", i: xinst.Inst{Op: xinst.Jmp, W: 8, A: at(8193)}, ip: 0x0807060504030201},
		{what: "call", i: xinst.Inst{Op: xinst.Call, W: 8, Imm: 16}, want: regs{4: 4120}, ip: ip + size + 16, to: 4120, w: 8, v: ip + size},
		{what: "call r4", i: xinst.Inst{Op: xinst.Call, W: 8, A: r4}, want: regs{4: 4120}, ip: 4128, to: 4120, w: 8, v: ip + size},
		{what: "call m", i: xinst.Inst{Op: xinst.Call, W: 8, A: xinst.M(4, -1, 1, -8)}, want: regs{4: 4120}, ip: 0x1F1E1D1C1B1A1918, to: 4120, w: 8, v: ip + size},
		{what: "ret", i: xinst.Inst{Op: xinst.Ret, W: 8}, want: regs{4: 4136}, ip: 0x2726252423222120},
		{what: "nop", i: xinst.Inst{Op: xinst.Nop, W: 8}, flags: cs, after: cs},
		{what: "fence", i: xinst.Inst{Op: xinst.Fence, W: 8}, flags: cs, after: cs},
		{what: "sys", i: xinst.Inst{Op: xinst.Sys, W: 8}, flags: cs, after: cs, want: regs{1: ip + size, 11: 515}, end: api.Calls},
		{what: "ud", i: xinst.Inst{Op: xinst.Ud, W: 8}, flags: cs, after: cs, ip: ip, end: api.FaultUd},
	})
}

// P10.2: strings, by hand.
func TestStrings(t *testing.T) {
	cs := set(true, false, 1)
	checkAll(t, []row{
		{what: "movs", i: xinst.Inst{Op: xinst.Movs, W: 4}, have: regs{6: 8195, 7: 4096}, flags: cs, after: cs, want: regs{6: 8199, 7: 4100}, to: 4096, w: 4, v: 0x06050403},
		{what: "stos", i: xinst.Inst{Op: xinst.Stos, W: 2}, have: regs{7: 4096}, want: regs{7: 4098}, to: 4096, w: 2, v: 0x7788},
		{what: "rep", i: xinst.Inst{Op: xinst.Stos, W: 1, Rep: true}, have: regs{1: 2, 7: 4096}, want: regs{1: 1, 7: 4097}, ip: ip, to: 4096, w: 1, v: 0x88},
		{what: "rep last", i: xinst.Inst{Op: xinst.Movs, W: 8, Rep: true}, have: regs{1: 1, 6: 8192, 7: 4096}, want: regs{1: 0, 6: 8200, 7: 4104}, to: 4096, w: 8, v: 0x0706050403020100},
		{what: "rep many", i: xinst.Inst{Op: xinst.Movs, W: 1, Rep: true}, have: regs{1: all, 6: 8192, 7: 4096}, want: regs{1: all - 1, 6: 8193, 7: 4097}, ip: ip, to: 4096, w: 1, v: 0},
		{what: "rep none", i: xinst.Inst{Op: xinst.Movs, W: 1, Rep: true}, have: regs{1: 0}, flags: cs, after: cs},
		{what: "rep none stos", i: xinst.Inst{Op: xinst.Stos, W: 8, Rep: true}, have: regs{1: 0}},
		{what: "stos at r0", i: xinst.Inst{Op: xinst.Stos, W: 8}, have: regs{0: 7, 7: 4152, 1: 0}, want: regs{7: 4160}, to: 4152, w: 8, v: 7},
	})
	// Five bytes, of which the last one is beyond the data: four are moved.
	m, c := data(), xsem.New(ip, 0)
	c.Reg[1], c.Reg[6], c.Reg[7] = 5, 8192+8, 4096+60
	i := xinst.Inst{Op: xinst.Movs, W: 1, Rep: true, Len: 2}
	for n := range 4 {
		if end := c.Step(0, i, m); end != api.Runs || c.Ip != ip || m.Pending(0) != n+1 {
			t.Error("step", n, end, c.Ip)
		}
	}
	before := *c
	if end := c.Step(0, i, m); end != api.FaultMem || *c != before || c.Reg[1] != 1 || m.Pending(0) != 4 {
		t.Errorf("beyond: %+v", *c)
	}
	if v, _ := m.Load(0, 4152, 8); v != 0x0B0A0908_3B3A3938 {
		t.Errorf("moved: %x", v)
	}
}

// P10.3: a fault for each reason, with the buffer as it should be after it.
func TestFaults(t *testing.T) {
	for _, x := range []struct {
		what string
		i    xinst.Inst
		have regs
		end  int
	}{
		{"load", xinst.Inst{Op: xinst.Mov, W: 4, A: r0, B: at(4157)}, nil, api.FaultMem},
		{"store", xinst.Inst{Op: xinst.Mov, W: 1, A: at(8192), B: r0}, nil, api.FaultMem},
		{"private", xinst.Inst{Op: xinst.Mov, W: 1, A: r0, B: at(12288)}, nil, api.FaultMem},
		{"add m", xinst.Inst{Op: xinst.Add, W: 1, A: at(8192), B: r0}, nil, api.FaultMem},
		{"cmov", xinst.Inst{Op: xinst.Cmov, W: 8, Cc: 5, A: r0, B: at(0)}, nil, api.FaultMem},
		{"cas", xinst.Inst{Op: xinst.Cas, W: 1, A: at(8192), B: r1}, nil, api.FaultMem},
		{"lock cas", xinst.Inst{Op: xinst.Cas, W: 1, A: at(8192), B: r1, Lock: true}, nil, api.FaultMem},
		{"lock inc", xinst.Inst{Op: xinst.Inc, W: 8, A: at(8192), Lock: true}, nil, api.FaultMem},
		{"xchg", xinst.Inst{Op: xinst.Xchg, W: 1, A: at(8192), B: r1}, nil, api.FaultMem},
		{"xadd", xinst.Inst{Op: xinst.Xadd, W: 1, A: at(8192), B: r1}, nil, api.FaultMem},
		{"shl 0", xinst.Inst{Op: xinst.Shl, W: 1, A: at(8192), B: imm}, nil, api.FaultMem},
		{"not", xinst.Inst{Op: xinst.Not, W: 1, A: at(8192)}, nil, api.FaultMem},
		{"set", xinst.Inst{Op: xinst.Set, W: 1, A: at(8192), Cc: 1}, nil, api.FaultMem},
		{"push", xinst.Inst{Op: xinst.Push, W: 8, A: r0}, regs{4: 4100}, api.FaultMem},
		{"push m", xinst.Inst{Op: xinst.Push, W: 8, A: at(0)}, nil, api.FaultMem},
		{"push from the end", xinst.Inst{Op: xinst.Push, W: 8, A: r0}, regs{4: 0}, api.FaultMem},
		{"pop", xinst.Inst{Op: xinst.Pop, W: 8, A: r0}, regs{4: 4153}, api.FaultMem},
		{"pop m", xinst.Inst{Op: xinst.Pop, W: 8, A: at(8192)}, nil, api.FaultMem},
		{"pop beyond", xinst.Inst{Op: xinst.Pop, W: 8, A: xinst.M(4, -1, 1, 0)}, regs{4: 4152}, api.FaultMem},
		{"jmp m", xinst.Inst{Op: xinst.Jmp, W: 8, A: at(4153)}, nil, api.FaultMem},
		{"call", xinst.Inst{Op: xinst.Call, W: 8, Imm: 5}, regs{4: 8200}, api.FaultMem},
		{"call m", xinst.Inst{Op: xinst.Call, W: 8, A: at(0)}, nil, api.FaultMem},
		{"ret", xinst.Inst{Op: xinst.Ret, W: 8}, regs{4: all}, api.FaultMem},
		{"movs from", xinst.Inst{Op: xinst.Movs, W: 8}, regs{6: 4153, 7: 4096}, api.FaultMem},
		{"movs to", xinst.Inst{Op: xinst.Movs, W: 8, Rep: true}, regs{1: 2, 6: 4096, 7: 8192}, api.FaultMem},
		{"stos", xinst.Inst{Op: xinst.Stos, W: 8, Rep: true}, regs{1: 1, 7: 4153}, api.FaultMem},
		{"div m", xinst.Inst{Op: xinst.Div, W: 4, A: at(0)}, nil, api.FaultMem},
		{"div 0", xinst.Inst{Op: xinst.Div, W: 4, A: r3}, regs{0: 9, 2: 0, 3: 1 << 32}, api.FaultDiv},
		{"div over", xinst.Inst{Op: xinst.Div, W: 1, A: r3}, regs{0: 0x200, 3: 2}, api.FaultDiv},
		{"div 0 m", xinst.Inst{Op: xinst.Div, W: 1, A: at(8192)}, nil, api.FaultDiv},
		{"sdiv", xinst.Inst{Op: xinst.Sdiv, W: 4, A: r3}, regs{0: 1 << 31, 2: all, 3: all}, api.FaultDiv},
		{"ud", xinst.Inst{Op: xinst.Ud, W: 8}, nil, api.FaultUd},
		{"not valid", xinst.Inst{Op: xinst.Div, W: 8, A: r3}, nil, api.FaultUd},
		{"not valid, locked", xinst.Inst{Op: xinst.Mov, W: 8, A: at(4096), B: r3, Lock: true}, nil, api.FaultUd},
		{"no instruction", xinst.Inst{}, nil, api.FaultUd},
	} {
		m, c := data(), xsem.New(ip, 4128)
		for k, v := range x.have {
			c.Reg[k] = v
		}
		c.Thunk = set(true, true, 77)
		m.Store(0, 4140, 1, 99)
		before, n := *c, m.Copy()
		// Only a locked instruction has flushed the buffer, and only one that is valid is executed.
		pending := 1
		if x.i.Lock && xinst.May(x.i) || x.i.Op == xinst.Xchg {
			n.Flush(0)
			pending = 0
		}
		if end := c.Step(0, x.i, m); end != x.end || *c != before {
			t.Errorf("%s: %d %+v", x.what, end, *c)
		}
		if m.Pending(0) != pending || !m.Same(n) {
			t.Errorf("%s: memory is changed", x.what)
		}
	}
}

// P10.2: without memory, and for threads that there are not, only what needs no memory is done.
func TestNoMemory(t *testing.T) {
	for _, x := range []struct {
		t int
		m *mem.Mem
	}{{0, nil}, {-1, data()}, {8, data()}, {math.MaxInt, data()}, {math.MinInt, data()}} {
		for _, i := range []xinst.Inst{
			{Op: xinst.Mov, W: 1, A: r0, B: at(4096)},
			{Op: xinst.Mov, W: 1, A: at(4096), B: r0},
			{Op: xinst.Xchg, W: 1, A: at(4096), B: r0},
			{Op: xinst.Add, W: 1, A: at(4096), B: r0, Lock: true},
			{Op: xinst.Ret, W: 8},
		} {
			c := xsem.New(ip, 4128)
			if before := *c; c.Step(x.t, i, x.m) != api.FaultMem || *c != before {
				t.Errorf("%s by %d: %+v", xinst.Show(i), x.t, *c)
			}
		}
		c := xsem.New(ip, 4128)
		for n, i := range []xinst.Inst{{Op: xinst.Fence, W: 8, Len: 1}, {Op: xinst.Inc, W: 8, A: r0, Len: 1}, {Op: xinst.Nop, W: 8, Len: 1}, {Op: xinst.Jmp, W: 8, Len: 1}} {
			if end := c.Step(x.t, i, x.m); end != api.Runs || c.Ip != ip+uint64(n+1) {
				t.Errorf("%s by %d: %d", xinst.Show(i), x.t, end)
			}
		}
		if end := c.Step(x.t, xinst.Inst{Op: xinst.Sys, W: 8}, x.m); end != api.Calls || c.Reg[0] != 1 || c.Reg[1] != c.Ip {
			t.Error("sys", end)
		}
	}
	var none *xsem.Cpu
	m := data()
	m.Store(0, 4096, 1, 5)
	for _, i := range []xinst.Inst{{Op: xinst.Nop, W: 8}, {Op: xinst.Fence, W: 8}, {Op: xinst.Inc, W: 1, A: at(4096), Lock: true}} {
		if none.Step(0, i, m) != api.FaultUd || m.Pending(0) != 1 {
			t.Error("a step of no cpu")
		}
	}
}

// P10.4: stores wait in the buffer, in front of which the thread reads; locked ones do not, and what waited is in memory before.
func TestBuffer(t *testing.T) {
	m, c := data(), xsem.New(ip, 4128)
	run := func(l ...xinst.Inst) {
		t.Helper()
		for _, i := range l {
			if c.Step(0, i, m) != api.Runs {
				t.Fatal(xinst.Show(i))
			}
		}
	}
	inc := xinst.Inst{Op: xinst.Inc, W: 1, A: at(4096)}
	run(inc, inc, inc)
	if b, _ := m.Byte(4096); b != 0 || m.Pending(0) != 3 {
		t.Error("stores do not wait", b)
	}
	run(xinst.Inst{Op: xinst.Mov, W: 1, A: r0, B: at(4096)})
	if c.Reg[0] != 3 {
		t.Error("own stores", c.Reg[0])
	}
	m.Store(1, 4096, 1, 50)
	m.Drain(1)
	inc.Lock = true
	run(inc) // the three stores are behind that of the other thread
	if b, _ := m.Byte(4096); b != 4 || m.Pending(0) != 0 {
		t.Error("locked", b)
	}
	m.Store(1, 4096, 1, 50)
	run(inc)
	if b, _ := m.Byte(4096); b != 5 || m.Pending(1) != 1 {
		t.Error("another thread's buffer", b)
	}
	m.Drain(1)
	run(inc)
	if b, _ := m.Byte(4096); b != 51 {
		t.Error("locked, behind another thread", b)
	}
	for _, i := range []xinst.Inst{{Op: xinst.Fence, W: 8}, {Op: xinst.Sys, W: 8}} {
		m.Store(0, 4096, 1, 60)
		m.Store(1, 4097, 1, 61)
		c.Step(0, i, m)
		if b, _ := m.Byte(4096); b != 60 || m.Pending(0) != 0 || m.Pending(1) == 0 {
			t.Error(xinst.Show(i), b)
		}
	}
}

// same reports whether two memories have the same bytes.
func same(l, k []mem.Area) bool {
	return slices.EqualFunc(l, k, func(a, b mem.Area) bool { return bytes.Equal(a.Data, b.Data) })
}
