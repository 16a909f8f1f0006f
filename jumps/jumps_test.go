package jumps_test

import (
	"math"
	"slices"
	"testing"

	"calque/elf"
	"calque/image"
	"calque/jumps"
	"calque/xinst"
)

const all = math.MaxUint64

// set is the set of some registers.
func set(l ...int) uint32 {
	n := uint32(0)
	for _, r := range l {
		n |= 1 << r
	}
	return n
}

// none is no register.
var none []int

// regs are registers.
func regs(l ...int) []int { return l }

// memory is the memory at register 8 plus four times register 9.
var memory = xinst.M(8, 9, 4, -8)

// P11.1: what instructions read and change, by hand.
func TestRows(t *testing.T) {
	r5, r6, i := xinst.R(5), xinst.R(6), xinst.I()
	for _, x := range []struct {
		i             xinst.Inst
		reads, writes []int
	}{
		{xinst.Inst{Op: xinst.Add, W: 1, A: r5, B: r6}, regs(5, 6), regs(5)},
		{xinst.Inst{Op: xinst.Or, W: 8, A: memory, B: r6}, regs(6, 8, 9), none},
		{xinst.Inst{Op: xinst.Adc, W: 4, A: r5, B: memory}, regs(5, 8, 9), regs(5)},
		{xinst.Inst{Op: xinst.Sbb, W: 2, A: r5, B: i}, regs(5), regs(5)},
		{xinst.Inst{Op: xinst.Xor, W: 4, A: r5, B: r5}, regs(5), regs(5)},
		{xinst.Inst{Op: xinst.Sub, W: 4, A: memory, B: i, Lock: true}, regs(8, 9), none},
		{xinst.Inst{Op: xinst.Cmp, W: 4, A: r5, B: r6}, regs(5, 6), none},
		{xinst.Inst{Op: xinst.Cmp, W: 4, A: memory, B: i}, regs(8, 9), none},
		{xinst.Inst{Op: xinst.Test, W: 8, A: r5, B: i}, regs(5), none},
		{xinst.Inst{Op: xinst.Test, W: 8, A: memory, B: r6}, regs(6, 8, 9), none},
		{xinst.Inst{Op: xinst.Mov, W: 1, A: r5, B: i}, regs(5), regs(5)},
		{xinst.Inst{Op: xinst.Mov, W: 2, A: r5, B: r6}, regs(5, 6), regs(5)},
		{xinst.Inst{Op: xinst.Mov, W: 4, A: r5, B: r6}, regs(6), regs(5)},
		{xinst.Inst{Op: xinst.Mov, W: 8, A: r5, B: i}, none, regs(5)},
		{xinst.Inst{Op: xinst.Mov, W: 8, A: r5, B: r5}, regs(5), regs(5)},
		{xinst.Inst{Op: xinst.Mov, W: 8, A: r5, B: memory}, regs(8, 9), regs(5)},
		{xinst.Inst{Op: xinst.Mov, W: 1, A: memory, B: r6}, regs(6, 8, 9), none},
		{xinst.Inst{Op: xinst.Movzx, W: 2, W2: 1, A: r5, B: r6}, regs(5, 6), regs(5)},
		{xinst.Inst{Op: xinst.Movzx, W: 4, W2: 1, A: r5, B: r6}, regs(6), regs(5)},
		{xinst.Inst{Op: xinst.Movsx, W: 2, W2: 1, A: r5, B: memory}, regs(5, 8, 9), regs(5)},
		{xinst.Inst{Op: xinst.Movsx, W: 8, W2: 4, A: r5, B: r6}, regs(6), regs(5)},
		{xinst.Inst{Op: xinst.Lea, W: 2, A: r5, B: memory}, regs(5, 8, 9), regs(5)},
		{xinst.Inst{Op: xinst.Lea, W: 8, A: r5, B: memory}, regs(8, 9), regs(5)},
		{xinst.Inst{Op: xinst.Push, W: 8, A: r5}, regs(4, 5), regs(4)},
		{xinst.Inst{Op: xinst.Push, W: 8, A: i}, regs(4), regs(4)},
		{xinst.Inst{Op: xinst.Push, W: 8, A: memory}, regs(4, 8, 9), regs(4)},
		{xinst.Inst{Op: xinst.Pop, W: 8, A: r5}, regs(4), regs(4, 5)},
		{xinst.Inst{Op: xinst.Pop, W: 8, A: memory}, regs(4, 8, 9), regs(4)},
		{xinst.Inst{Op: xinst.Inc, W: 4, A: r5}, regs(5), regs(5)},
		{xinst.Inst{Op: xinst.Not, W: 1, A: memory, Lock: true}, regs(8, 9), none},
		{xinst.Inst{Op: xinst.Mul, W: 1, A: r5}, regs(0, 5), regs(0)},
		{xinst.Inst{Op: xinst.Mul, W: 2, A: r5}, regs(0, 2, 5), regs(0, 2)},
		{xinst.Inst{Op: xinst.Mul, W: 4, A: memory}, regs(0, 8, 9), regs(0, 2)},
		{xinst.Inst{Op: xinst.Smul, W: 1, A: memory}, regs(0, 8, 9), regs(0)},
		{xinst.Inst{Op: xinst.Smul, W: 2, A: memory}, regs(0, 2, 8, 9), regs(0, 2)},
		{xinst.Inst{Op: xinst.Smul, W: 8, A: r5}, regs(0, 5), regs(0, 2)},
		{xinst.Inst{Op: xinst.Div, W: 1, A: r5}, regs(0, 2, 5), regs(0)},
		{xinst.Inst{Op: xinst.Div, W: 2, A: r5}, regs(0, 2, 5), regs(0, 2)},
		{xinst.Inst{Op: xinst.Sdiv, W: 1, A: memory}, regs(0, 2, 8, 9), regs(0)},
		{xinst.Inst{Op: xinst.Sdiv, W: 4, A: memory}, regs(0, 2, 8, 9), regs(0, 2)},
		{xinst.Inst{Op: xinst.Imul, W: 8, A: r5, B: r6}, regs(5, 6), regs(5)},
		{xinst.Inst{Op: xinst.Imuli, W: 2, A: r5, B: r6, Imm: 3}, regs(5, 6), regs(5)},
		{xinst.Inst{Op: xinst.Imuli, W: 4, A: r5, B: memory, Imm: 3}, regs(8, 9), regs(5)},
		{xinst.Inst{Op: xinst.Rol, W: 1, A: r5, B: i, Imm: 3}, regs(5), regs(5)},
		{xinst.Inst{Op: xinst.Sar, W: 8, A: r5, B: xinst.R(1)}, regs(1, 5), regs(5)},
		{xinst.Inst{Op: xinst.Shl, W: 8, A: memory, B: xinst.R(1)}, regs(1, 8, 9), none},
		{xinst.Inst{Op: xinst.Xchg, W: 8, A: r5, B: r6}, regs(5, 6), regs(5, 6)},
		{xinst.Inst{Op: xinst.Xchg, W: 8, A: memory, B: r6}, regs(6, 8, 9), regs(6)},
		{xinst.Inst{Op: xinst.Xadd, W: 4, A: r5, B: r6}, regs(5, 6), regs(5, 6)},
		{xinst.Inst{Op: xinst.Xadd, W: 8, A: xinst.M(3, xinst.No, 1, 0), B: xinst.R(1)}, regs(1, 3), regs(1)}, // the document's example
		{xinst.Inst{Op: xinst.Cas, W: 4, A: r5, B: r6}, regs(0, 5, 6), regs(0, 5)},
		{xinst.Inst{Op: xinst.Cas, W: 4, A: memory, B: r6, Lock: true}, regs(0, 6, 8, 9), regs(0)},
		{xinst.Inst{Op: xinst.Cmov, W: 4, Cc: 3, A: r5, B: r6}, regs(5, 6), regs(5)},
		{xinst.Inst{Op: xinst.Cmov, W: 8, Cc: 3, A: r5, B: memory}, regs(5, 8, 9), regs(5)},
		{xinst.Inst{Op: xinst.Set, W: 1, Cc: 3, A: r5}, regs(5), regs(5)},
		{xinst.Inst{Op: xinst.Set, W: 1, Cc: 3, A: memory}, regs(8, 9), none},
		{xinst.Inst{Op: xinst.Jcc, W: 8, Cc: 3, Imm: 5}, none, none},
		{xinst.Inst{Op: xinst.Jmp, W: 8, Imm: 5}, none, none},
		{xinst.Inst{Op: xinst.Jmp, W: 8, A: r5}, regs(5), none},
		{xinst.Inst{Op: xinst.Jmp, W: 8, A: memory}, regs(8, 9), none},
		{xinst.Inst{Op: xinst.Call, W: 8, Imm: 5}, regs(4), regs(4)},
		{xinst.Inst{Op: xinst.Call, W: 8, A: r5}, regs(4, 5), regs(4)},
		{xinst.Inst{Op: xinst.Call, W: 8, A: memory}, regs(4, 8, 9), regs(4)},
		{xinst.Inst{Op: xinst.Ret, W: 8}, regs(4), regs(4)},
		{xinst.Inst{Op: xinst.Wide, W: 2}, regs(0), regs(0)},
		{xinst.Inst{Op: xinst.Wide, W: 8}, regs(0), regs(0)},
		{xinst.Inst{Op: xinst.Sign, W: 2}, regs(0, 2), regs(2)},
		{xinst.Inst{Op: xinst.Sign, W: 4}, regs(0), regs(2)},
		{xinst.Inst{Op: xinst.Movs, W: 4}, regs(6, 7), regs(6, 7)},
		{xinst.Inst{Op: xinst.Movs, W: 1, Rep: true}, regs(1, 6, 7), regs(1, 6, 7)},
		{xinst.Inst{Op: xinst.Stos, W: 4}, regs(0, 7), regs(7)},
		{xinst.Inst{Op: xinst.Stos, W: 8, Rep: true}, regs(0, 1, 7), regs(1, 7)},
		{xinst.Inst{Op: xinst.Fence, W: 8}, none, none},
		{xinst.Inst{Op: xinst.Nop, W: 8}, none, none},
		{xinst.Inst{Op: xinst.Ud, W: 8}, none, none},
		{xinst.Inst{Op: xinst.Sys, W: 8}, regs(0, 6, 7), regs(0, 1, 11)},
		// Parts of an address that are no register.
		{xinst.Inst{Op: xinst.Mov, W: 4, A: r5, B: xinst.M(xinst.No, xinst.No, 1, 64)}, none, regs(5)},
		{xinst.Inst{Op: xinst.Mov, W: 4, A: r5, B: xinst.M(xinst.Rip, xinst.No, 1, 64)}, none, regs(5)},
		{xinst.Inst{Op: xinst.Mov, W: 4, A: r5, B: xinst.M(xinst.No, 15, 8, 64)}, regs(15), regs(5)},
		{xinst.Inst{Op: xinst.Mov, W: 4, A: xinst.R(15), B: xinst.M(0, 0, 8, 64)}, regs(0), regs(15)},
	} {
		if !xinst.May(x.i) {
			t.Fatalf("%+v is not valid", x.i)
		}
		if r, w := jumps.Reads(x.i), jumps.Writes(x.i); r != set(x.reads...) || w != set(x.writes...) {
			t.Errorf("%s: reads %b, writes %b", xinst.Show(x.i), r, w)
		}
	}
}

// P11.1: what is not valid reads and changes nothing.
func TestNotValid(t *testing.T) {
	for _, i := range []xinst.Inst{
		{},
		{Op: xinst.Mov, W: 3, A: xinst.R(1), B: xinst.R(2)},
		{Op: xinst.Add, W: 8, A: xinst.R(16), B: xinst.R(2)},
		{Op: xinst.Add, W: 8, A: xinst.R(-1), B: xinst.R(2)},
		{Op: xinst.Add, W: 8, A: memory, B: memory},
		{Op: xinst.Add, W: 8, A: xinst.M(1, 4, 1, 0), B: xinst.R(2)},
		{Op: xinst.Push, W: 4, A: xinst.R(1)},
		{Op: xinst.Ret, W: 8, Len: 16},
		{Op: xinst.Ret, W: 8, Rep: true},
		{Op: xinst.Sys, W: 8, Imm: 1},
		{Op: xinst.Ud + 1, W: 8},
		{Op: math.MinInt, W: 8, A: xinst.R(1)},
	} {
		if r, w := jumps.Reads(i), jumps.Writes(i); r != 0 || w != 0 {
			t.Errorf("%+v: reads %b, writes %b", i, r, w)
		}
	}
}

// cmp compares a register with a number; ja jumps if that register is above it.
func cmp(reg int, n int64) xinst.Inst {
	return xinst.Inst{Op: xinst.Cmp, W: 4, A: xinst.R(reg), B: xinst.I(), Imm: n, Len: 3}
}

func jcc(cc int) xinst.Inst {
	return xinst.Inst{Op: xinst.Jcc, W: 8, Cc: cc, Imm: 20, Len: 2}
}

var (
	ja  = jcc(7)
	nop = xinst.Inst{Op: xinst.Nop, W: 8, Len: 1}
	ud  = xinst.Inst{Op: xinst.Ud, W: 8, Len: 2}
)

// P11.2: bounds.
func TestBound(t *testing.T) {
	wide := func(i xinst.Inst, w int) xinst.Inst { i.W = w; return i }
	mem := cmp(0, 5)
	mem.A = memory
	other := cmp(1, 5)
	other.B, other.Imm = xinst.R(5), 0
	sub := cmp(1, 5)
	sub.Op = xinst.Sub
	long := ja
	long.Len = 16
	first := cmp(1, 5)
	first.Len = -1
	jmp := xinst.Inst{Op: xinst.Jmp, W: 8, Imm: 7, Len: 2}
	for _, x := range []struct {
		what string
		l    []xinst.Inst
		want jumps.Limit
		ok   bool
	}{
		{"the document's", []xinst.Inst{cmp(1, 3), ja}, jumps.Limit{Reg: 1, N: 3}, true},
		{"width 8", []xinst.Inst{wide(cmp(15, 63), 8), ja}, jumps.Limit{Reg: 15, N: 63}, true},
		{"register 0", []xinst.Inst{cmp(0, 0), ja}, jumps.Limit{}, true},
		{"register 4", []xinst.Inst{cmp(4, 1), ja}, jumps.Limit{Reg: 4, N: 1}, true},
		{"other code before", []xinst.Inst{cmp(2, 9), ja, nop, cmp(1, 3), ja}, jumps.Limit{Reg: 1, N: 3}, true},
		{"what is not valid before", []xinst.Inst{{}, {Op: -1}, cmp(1, 3), ja}, jumps.Limit{Reg: 1, N: 3}, true},
		{what: "nothing"},
		{what: "one", l: []xinst.Inst{ja}},
		{what: "the comparison alone", l: []xinst.Inst{cmp(1, 3)}},
		{what: "no jump", l: []xinst.Inst{cmp(1, 3), nop}},
		{what: "between", l: []xinst.Inst{cmp(1, 3), nop, ja}},
		{what: "behind", l: []xinst.Inst{cmp(1, 3), ja, nop}},
		{what: "64", l: []xinst.Inst{cmp(1, 64), ja}},
		{what: "-1", l: []xinst.Inst{cmp(1, -1), ja}},
		{what: "beyond an int", l: []xinst.Inst{wide(cmp(1, math.MinInt32), 8), ja}},
		{what: "width 1", l: []xinst.Inst{wide(cmp(1, 3), 1), ja}},
		{what: "width 2", l: []xinst.Inst{wide(cmp(1, 3), 2), ja}},
		{what: "memory", l: []xinst.Inst{mem, ja}},
		{what: "two registers", l: []xinst.Inst{other, ja}},
		{what: "a difference", l: []xinst.Inst{sub, ja}},
		{what: "a jump that is always made", l: []xinst.Inst{cmp(1, 3), jmp}},
		{what: "a move with the condition", l: []xinst.Inst{cmp(1, 3), {Op: xinst.Cmov, W: 4, Cc: 7, A: xinst.R(2), B: xinst.R(3)}}},
		{what: "a truth of the condition", l: []xinst.Inst{cmp(1, 3), {Op: xinst.Set, W: 1, Cc: 7, A: xinst.R(2)}}},
		{what: "comparison not valid", l: []xinst.Inst{first, ja}},
		{what: "comparison not valid", l: []xinst.Inst{cmp(16, 3), ja}},
		{what: "comparison not valid", l: []xinst.Inst{wide(cmp(1, 3), 5), ja}},
		{what: "jump not valid", l: []xinst.Inst{cmp(1, 3), long}},
		{what: "jump not valid", l: []xinst.Inst{cmp(1, 3), wide(ja, 4)}},
		{what: "turned", l: []xinst.Inst{ja, cmp(1, 3)}},
	} {
		before := slices.Clone(x.l)
		if b, ok := jumps.Bound(x.l...); b != x.want || ok != x.ok {
			t.Errorf("%s: %v, %v", x.what, b, ok)
		}
		if !slices.Equal(before, x.l) {
			t.Errorf("%s: code is changed", x.what)
		}
	}
	for cc := range 16 {
		if _, ok := jumps.Bound(cmp(1, 3), jcc(cc)); ok != (cc == 7) {
			t.Error("condition", cc)
		}
	}
	for n := int64(-70); n < 70; n++ {
		if b, ok := jumps.Bound(cmp(1, n), ja); ok != (n >= 0 && n <= 63) || ok && b != (jumps.Limit{Reg: 1, N: int(n)}) {
			t.Error("number", n)
		}
	}
}

// number are the eight bytes of a number.
func number(v uint64) []byte {
	var b []byte
	for k := range 8 {
		b = append(b, byte(v>>(8*k)))
	}
	return b
}

// words are the bytes of numbers.
func words(l ...uint64) []byte {
	var b []byte
	for _, v := range l {
		b = append(b, number(v)...)
	}
	return b
}

func load(flags int, addr, size uint64, data []byte) elf.Seg {
	return elf.Seg{Kind: elf.Load, Flags: flags, Addr: addr, Size: size, Data: data}
}

// picture has a text of 16 bytes at 4096, a table at 8192 of which the last entries are not in the text, one that may be written at 12288, and one across two segments at 16384.
func picture() image.Image {
	return image.Image{
		Seg: load(elf.R|elf.X, 4096, 16, make([]byte, 16)),
		Data: []elf.Seg{
			load(elf.R, 8192, 64, words(4100, 4096, 4111, 4100, 4101, 4095, 4112)),
			load(elf.R|elf.W, 12288, 8, words(4096)),
			load(elf.R, 16384, 12, append(words(4096), 0, 16, 0, 0)),
			load(elf.R, 16396, 11, append([]byte{0, 0, 0}, words(4097)...)),
		},
		Entry: 4096,
	}
}

// hop jumps to the address in a table, of which a register tells the place.
func hop(reg int, at int64) xinst.Inst {
	return xinst.Inst{Op: xinst.Jmp, W: 8, A: xinst.M(xinst.No, reg, 8, at), Len: 8}
}

// P11.3: tables.
func TestTable(t *testing.T) {
	m := picture()
	limit := func(reg, n int) jumps.Limit { return jumps.Limit{Reg: reg, N: n} }
	with := func(change func(i *xinst.Inst)) []xinst.Inst {
		i := hop(1, 8192)
		change(&i)
		return []xinst.Inst{i}
	}
	mov := xinst.Inst{Op: xinst.Mov, W: 8, A: xinst.R(2), B: xinst.R(1), Len: 3}
	back := xinst.Inst{Op: xinst.Mov, W: 1, A: xinst.R(1), B: xinst.R(2), Len: 3}
	for _, x := range []struct {
		what string
		b    jumps.Limit
		l    []xinst.Inst
		want []uint64
	}{
		{"one", limit(1, 0), []xinst.Inst{hop(1, 8192)}, []uint64{4100}},
		{"in their order, one twice", limit(1, 4), []xinst.Inst{hop(1, 8192)}, []uint64{4100, 4096, 4111, 4100, 4101}},
		{"from within", limit(15, 1), []xinst.Inst{hop(15, 8200)}, []uint64{4096, 4111}},
		{"register 0", limit(0, 1), []xinst.Inst{hop(0, 8200)}, []uint64{4096, 4111}},
		{"behind code", limit(1, 2), []xinst.Inst{cmp(1, 5), nop, mov, hop(1, 8192)}, []uint64{4100, 4096, 4111}},
		{"behind a jump", limit(1, 1), []xinst.Inst{ja, ud, hop(1, 8192)}, []uint64{4100, 4096}},
		{"a byte too far", limit(1, 0), []xinst.Inst{hop(1, 8193)}, nil},
		{"not aligned, the last bytes", limit(1, 0), []xinst.Inst{hop(1, 16399)}, []uint64{4097}},
		{"beyond the last bytes", limit(1, 0), []xinst.Inst{hop(1, 16400)}, nil},
		{"to the end of a segment", limit(1, 0), []xinst.Inst{hop(1, 16384)}, []uint64{4096}},
		{"across two segments", limit(1, 1), []xinst.Inst{hop(1, 16384)}, nil},
		{"before the text", limit(1, 5), []xinst.Inst{hop(1, 8192)}, nil},
		{"before the text", limit(1, 0), []xinst.Inst{hop(1, 8232)}, nil},
		{"behind the text", limit(1, 0), []xinst.Inst{hop(1, 8240)}, nil},
		{"noughts behind Data", limit(1, 0), []xinst.Inst{hop(1, 8248)}, nil},
		{"data that may be written", limit(1, 0), []xinst.Inst{hop(1, 12288)}, nil},
		{"no data", limit(1, 0), []xinst.Inst{hop(1, 20480)}, nil},
		{"the text", limit(1, 0), []xinst.Inst{hop(1, 4096)}, nil},
		{"another register", limit(2, 0), []xinst.Inst{hop(1, 8192)}, nil},
		{"N below 0", limit(1, -1), []xinst.Inst{hop(1, 8192)}, nil},
		{"no N", limit(1, math.MinInt), []xinst.Inst{hop(1, 8192)}, nil},
		{"no N", limit(1, math.MaxInt), []xinst.Inst{hop(1, 8192)}, nil},
		{"no register", limit(-1, 0), []xinst.Inst{{Op: xinst.Jmp, W: 8, A: xinst.M(xinst.No, xinst.No, 1, 8192), Len: 7}}, nil},
		{"no register", limit(-1, 0), []xinst.Inst{hop(-1, 8192)}, nil},
		{"register 4", limit(4, 0), []xinst.Inst{hop(4, 8192)}, nil},
		{"register 16", limit(16, 0), []xinst.Inst{hop(16, 8192)}, nil},
		{"register 33", limit(33, 0), []xinst.Inst{hop(1, 8192)}, nil},
		{"no code", limit(1, 0), nil, nil},
		{"behind the jump", limit(1, 0), []xinst.Inst{hop(1, 8192), nop}, nil},
		{"the register is changed", limit(1, 0), []xinst.Inst{back, hop(1, 8192)}, nil},
		{"the register is changed", limit(1, 0), []xinst.Inst{back, nop, nop, hop(1, 8192)}, nil},
		{"the register is changed by Sys", limit(11, 0), []xinst.Inst{{Op: xinst.Sys, W: 8, Len: 2}, hop(11, 8192)}, nil},
		{"code not valid", limit(1, 0), []xinst.Inst{{}, hop(1, 8192)}, nil},
		{"jump not valid", limit(1, 0), with(func(i *xinst.Inst) { i.Len = 16 }), nil},
		{"a base", limit(1, 0), with(func(i *xinst.Inst) { i.A.Base = 2 }), nil},
		{"base Rip", limit(1, 0), with(func(i *xinst.Inst) { i.A.Base = xinst.Rip }), nil},
		{"Scale 4", limit(1, 0), with(func(i *xinst.Inst) { i.A.Scale = 4 }), nil},
		{"Scale 1", limit(1, 0), with(func(i *xinst.Inst) { i.A.Scale = 1 }), nil},
		{"the register as base", limit(1, 0), with(func(i *xinst.Inst) { i.A = xinst.M(1, xinst.No, 1, 8192) }), nil},
		{"a register", limit(1, 0), with(func(i *xinst.Inst) { i.A = xinst.R(1) }), nil},
		{"a call", limit(1, 0), with(func(i *xinst.Inst) { i.Op = xinst.Call }), nil},
		{"a push", limit(1, 0), with(func(i *xinst.Inst) { i.Op = xinst.Push }), nil},
		{"direct", limit(1, 0), with(func(i *xinst.Inst) { *i = xinst.Inst{Op: xinst.Jmp, W: 8, Imm: 8192, Len: 5} }), nil},
	} {
		before := slices.Clone(x.l)
		got, ok := jumps.Table(m, x.b, x.l...)
		if !slices.Equal(got, x.want) || ok != (x.want != nil) {
			t.Errorf("%s: %v, %v", x.what, got, ok)
		}
		if !slices.Equal(before, x.l) {
			t.Errorf("%s: code is changed", x.what)
		}
	}
}

// P11.3: N is 63 at most, and every entry counts.
func TestLongTable(t *testing.T) {
	for n := range 70 {
		m := picture()
		m.Data[0] = load(elf.R, 8192, 8*70, nil)
		var want []uint64
		for k := range n + 1 {
			want = append(want, 4096+uint64(k)%16)
		}
		m.Data[0].Data = words(want...)
		got, ok := jumps.Table(m, jumps.Limit{Reg: 3, N: n}, hop(3, 8192))
		if n > 63 {
			want = nil
		}
		if !slices.Equal(got, want) || ok != (n < 64) {
			t.Errorf("%d: %v, %v", n, got, ok)
		}
		if n > 63 {
			continue
		}
		if got, ok = jumps.Table(m, jumps.Limit{Reg: 3, N: n + 1}, hop(3, 8192)); len(got) != 0 || ok {
			t.Errorf("%d: an entry that is 0: %v", n, got)
		}
	}
}

// P11.3: addresses of entries are reckoned modulo 2^64, and of Disp the sign counts.
func TestFarTable(t *testing.T) {
	m := picture()
	m.Data = []elf.Seg{
		load(elf.R, 0, 16, words(4097, 4098)),
		load(elf.R, all-15, 16, words(4099, 4100)),
		load(elf.R, 1<<31-8, 16, words(4101, 4102)),
		load(elf.R, 1<<32-16, 16, words(4103, 4104)),
	}
	for _, x := range []struct {
		at   int64
		n    int
		want []uint64
	}{
		{-16, 3, []uint64{4099, 4100, 4097, 4098}},
		{-8, 1, []uint64{4100, 4097}},
		{-24, 1, nil},
		{8, 0, []uint64{4098}},
		{8, 1, nil},
		{1<<31 - 8, 1, []uint64{4101, 4102}},
	} {
		got, ok := jumps.Table(m, jumps.Limit{Reg: 1, N: x.n}, hop(1, x.at))
		if !slices.Equal(got, x.want) || ok != (x.want != nil) {
			t.Errorf("%d, %d: %v, %v", x.at, x.n, got, ok)
		}
	}
}

// P11.3: images of any kind.
func TestAnyImage(t *testing.T) {
	for _, m := range []image.Image{
		{},
		{Seg: elf.Seg{Addr: all, Size: all}},
		{Seg: elf.Seg{Size: all}, Data: []elf.Seg{{}, {Addr: all, Size: all}, {Size: all, Data: []byte{1}}}},
	} {
		for _, at := range []int64{0, -8, -1, 1, math.MaxInt32, math.MinInt32} {
			for _, n := range []int{0, 1, 63} {
				got, ok := jumps.Table(m, jumps.Limit{Reg: 1, N: n}, hop(1, at))
				if ok != (len(got) == n+1) || !ok && len(got) != 0 {
					t.Errorf("%+v: %v, %v", m, got, ok)
				}
			}
		}
	}
}

// P11.3: where there is no data there is no entry, not even one of a text at 0.
func TestTextAtZero(t *testing.T) {
	m := picture()
	m.Addr = 0
	m.Data[0] = load(elf.R, 8192, 8, nil)
	b := jumps.Limit{Reg: 1, N: 0}
	if got, ok := jumps.Table(m, b, hop(1, 8192)); !ok || !slices.Equal(got, []uint64{0}) {
		t.Error(got, ok)
	}
	for _, at := range []int64{8184, 8191, 8193, 8200, 0, 12288} {
		if got, ok := jumps.Table(m, b, hop(1, at)); ok || len(got) != 0 {
			t.Error(at, got)
		}
	}
}

// What a caller writes into a result is in no other one, nor in the image.
func TestOwnResults(t *testing.T) {
	m := picture()
	b := jumps.Limit{Reg: 1, N: 2}
	l, _ := jumps.Table(m, b, hop(1, 8192))
	for k := range l {
		l[k] = 7
	}
	_ = append(l[:0], 1, 2, 3, 4)
	if got, ok := jumps.Table(m, b, hop(1, 8192)); !ok || !slices.Equal(got, []uint64{4100, 4096, 4111}) {
		t.Error(got)
	}
}
