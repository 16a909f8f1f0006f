package xenc_test

import (
	"bytes"
	"fmt"
	"math"
	"slices"
	"strconv"
	"strings"
	"testing"

	"calque/api"
	"calque/xdec"
	"calque/xenc"
	"calque/xinst"
)

// dice are numbers that look as if they were thrown, always the same ones.
type dice struct{ n uint64 }

func (d *dice) below(n int) int {
	d.n = d.n*6364136223846793005 + 1442695040888963407
	return int(d.n>>33) % n
}

// The document's table: operations | A | B | opcode | more. Of the operands, - is none, r a register, m memory, i an immediate, 1 the register 1.
// More: b one less for W 1; k 8 times the operation's number is added; cc Cc is added; +r the register A is added;
// mr A is rm and B reg; rm A is reg and B rm; /0 to /7 or /k A is rm and reg is that; q REX does not tell W; w2 one less for W2 1;
// the immediate: iw as many bytes as W, but at most four; i1 one; full as many as W. Further: only for W 1, for the long immediates, or for W2 4.
// The first line that fits holds.
const table = `
add or adc sbb and sub xor cmp | rm  | r  | 1      | k b mr
add or adc sbb and sub xor cmp | r   | m  | 3      | k b rm
add or adc sbb and sub xor cmp | rm  | i  | 81     | b /k iw
test                           | rm  | r  | 85     | b mr
test                           | rm  | i  | f7     | b /0 iw
mov                            | rm  | r  | 89     | b mr
mov                            | r   | m  | 8b     | b rm
mov                            | r   | i  | b0     | one +r full
mov                            | r   | i  | b8     | long +r full
mov                            | rm  | i  | c7     | b /0 iw
movsx                          | r   | rm | 63     | four rm
movzx                          | r   | rm | 0fb7   | w2 rm
movsx                          | r   | rm | 0fbf   | w2 rm
lea                            | r   | m  | 8d     | rm
imul                           | r   | rm | 0faf   | rm
imuli                          | r   | rm | 69     | rm iw
cmov                           | r   | rm | 0f40   | cc rm
push                           | r   | -  | 50     | q +r
push                           | m   | -  | ff     | q /6
push                           | i   | -  | 68     | q iw
pop                            | r   | -  | 58     | q +r
pop                            | m   | -  | 8f     | q /0
inc                            | rm  | -  | ff     | b /0
dec                            | rm  | -  | ff     | b /1
not                            | rm  | -  | f7     | b /2
neg                            | rm  | -  | f7     | b /3
mul                            | rm  | -  | f7     | b /4
smul                           | rm  | -  | f7     | b /5
div                            | rm  | -  | f7     | b /6
sdiv                           | rm  | -  | f7     | b /7
rol                            | rm  | i  | c1     | b /0 i1
ror                            | rm  | i  | c1     | b /1 i1
shl                            | rm  | i  | c1     | b /4 i1
shr                            | rm  | i  | c1     | b /5 i1
sar                            | rm  | i  | c1     | b /7 i1
rol                            | rm  | 1  | d3     | b /0
ror                            | rm  | 1  | d3     | b /1
shl                            | rm  | 1  | d3     | b /4
shr                            | rm  | 1  | d3     | b /5
sar                            | rm  | 1  | d3     | b /7
xchg                           | rm  | r  | 87     | b mr
cas                            | rm  | r  | 0fb1   | b mr
xadd                           | rm  | r  | 0fc1   | b mr
set                            | rm  | -  | 0f90   | cc /0
jcc                            | -   | -  | 0f80   | cc q iw
jmp                            | -   | -  | e9     | q iw
jmp                            | rm  | -  | ff     | q /4
call                           | -   | -  | e8     | q iw
call                           | rm  | -  | ff     | q /2
ret                            | -   | -  | c3     | q
wide                           | -   | -  | 98     |
sign                           | -   | -  | 99     |
movs                           | -   | -  | a5     | b
stos                           | -   | -  | ab     | b
fence                          | -   | -  | 0faef0 | q
nop                            | -   | -  | 90     | q
sys                            | -   | -  | 0f05   | q
ud                             | -   | -  | 0f0b   | q
`

var names = strings.Fields(`add or adc sbb and sub xor cmp test mov movzx movsx lea push pop inc dec not neg mul smul div sdiv
	imul imuli rol ror shl shr sar xchg cas xadd cmov set jcc jmp call ret wide sign movs stos fence nop sys ud`)

// entry is a line of the table for one operation.
type entry struct {
	a, b string
	code int
	more []string
}

func (e entry) says(word string) bool { return slices.Contains(e.more, word) }

// entries are the table's lines by operation.
func entries() map[int][]entry {
	out := map[int][]entry{}
	for _, line := range strings.Split(strings.TrimSpace(table), "\n") {
		f := strings.Split(line, "|")
		code, err := strconv.ParseInt(strings.TrimSpace(f[3]), 16, 32)
		if err != nil {
			panic(line)
		}
		for _, name := range strings.Fields(f[0]) {
			op := slices.Index(names, name) + 1
			out[op] = append(out[op], entry{strings.TrimSpace(f[1]), strings.TrimSpace(f[2]), int(code), strings.Fields(f[4])})
		}
	}
	return out
}

// place is an address, and how it is written: ModRM without reg, what follows it, and the bits of REX.
type place struct {
	addr  xinst.Opd
	modrm int
	tail  string
	rex   int
}

var places = []place{
	{xinst.M(-1, -1, 1, 4660), 0x04, "25 34 12 00 00", 0},
	{xinst.M(16, -1, 1, -8), 0x05, "f8 ff ff ff", 0},
	{xinst.M(3, -1, 1, 0), 0x03, "", 0},
	{xinst.M(8, -1, 1, 1), 0x40, "01", 1},
	{xinst.M(5, -1, 1, 0), 0x45, "00", 0},
	{xinst.M(13, -1, 1, 0), 0x45, "00", 1},
	{xinst.M(4, -1, 1, 0), 0x04, "24", 0},
	{xinst.M(12, -1, 1, -128), 0x44, "24 80", 1},
	{xinst.M(0, 12, 4, 128), 0x84, "a0 80 00 00 00", 2},
	{xinst.M(9, 15, 8, 127), 0x44, "f9 7f", 3},
	{xinst.M(-1, 0, 2, math.MinInt32), 0x04, "45 00 00 00 80", 0},
	{xinst.M(15, -1, 1, math.MaxInt32), 0x87, "ff ff ff 7f", 1},
	{xinst.M(13, 5, 1, -129), 0x84, "2d 7f ff ff ff", 1},
}

// code are the bytes of a text of hexadecimal digits.
func code(s string) []byte {
	var b []byte
	for _, f := range strings.Fields(s) {
		v, err := strconv.ParseUint(f, 16, 8)
		if err != nil {
			panic(s)
		}
		b = append(b, byte(v))
	}
	return b
}

// lows are the n lowest bytes of a number.
func lows(v int64, n int) []byte {
	var b []byte
	for k := range n {
		b = append(b, byte(v>>(8*k)))
	}
	return b
}

// fits reports whether an operand is one of those that the table names.
func fits(o xinst.Opd, kinds string) bool {
	return strings.ContainsRune(kinds, []rune("-rmi")[o.Kind]) || kinds == "1" && o == xinst.R(1)
}

// line is the table's line for a valid instruction.
func line(t *testing.T, i xinst.Inst, all map[int][]entry) entry {
	long := i.Imm < math.MinInt32 || i.Imm > math.MaxInt32
	for _, e := range all[i.Op] {
		if fits(i.A, e.a) && fits(i.B, e.b) && (i.W == 1 || !e.says("one")) && (long || !e.says("long")) && (i.W2 == 4 || !e.says("four")) {
			return e
		}
	}
	t.Fatalf("no line: %s", xinst.Show(i))
	return entry{}
}

// number is the opcode of an instruction by its line.
func (e entry) number(i xinst.Inst) int {
	c := e.code
	if e.says("k") {
		c += 8 * (i.Op - xinst.Add)
	}
	if e.says("cc") {
		c += i.Cc
	}
	if e.says("b") && i.W == 1 || e.says("w2") && i.W2 == 1 {
		c--
	}
	if e.says("+r") {
		c += i.A.Reg & 7
	}
	return c
}

// operands are the bytes of ModRM and of what it requires, and the bits of REX.
func (e entry) operands(i xinst.Inst) ([]byte, int) {
	rm, reg := i.A, -1
	switch {
	case e.says("+r"):
		return nil, i.A.Reg >> 3
	case e.says("mr"):
		reg = i.B.Reg
	case e.says("rm"):
		rm, reg = i.B, i.A.Reg
	case e.says("/k"):
		reg = i.Op - xinst.Add
	default:
		for k := range 8 {
			if e.says("/" + strconv.Itoa(k)) {
				reg = k
			}
		}
	}
	if reg < 0 {
		return nil, 0
	}
	if rm.Kind == xinst.Reg {
		return []byte{byte(0xC0 | reg&7<<3 | rm.Reg&7)}, reg>>3<<2 | rm.Reg>>3
	}
	k := slices.IndexFunc(places, func(p place) bool { return p.addr == rm })
	p := places[k]
	return append([]byte{byte(p.modrm | reg&7<<3)}, code(p.tail)...), reg>>3<<2 | p.rex
}

// expected are an instruction's bytes, as the table tells them.
func expected(t *testing.T, i xinst.Inst, all map[int][]entry) []byte {
	var b []byte
	for _, p := range []struct {
		on bool
		c  byte
	}{{i.Lock, 0xF0}, {i.Rep, 0xF3}, {i.W == 2, 0x66}} {
		if p.on {
			b = append(b, p.c)
		}
	}
	e := line(t, i, all)
	rest, rex := e.operands(i)
	if i.W == 8 && !e.says("q") {
		rex |= 8
	}
	small := func(o xinst.Opd) bool { return o.Kind == xinst.Reg && slices.Contains([]int{4, 5, 6, 7}, o.Reg) }
	if rex != 0 || i.W == 1 && (small(i.A) || small(i.B)) || i.W2 == 1 && small(i.B) {
		b = append(b, byte(0x40+rex))
	}
	c := e.number(i)
	switch {
	case c > 0xFFFF:
		b = append(b, byte(c>>16), byte(c>>8), byte(c))
	case c > 0xFF:
		b = append(b, byte(c>>8), byte(c))
	default:
		b = append(b, byte(c))
	}
	b = append(b, rest...)
	switch {
	case e.says("iw"):
		b = append(b, lows(i.Imm, min(i.W, 4))...)
	case e.says("i1"):
		b = append(b, lows(i.Imm, 1)...)
	case e.says("full"):
		b = append(b, lows(i.Imm, i.W)...)
	}
	return b
}

// operands are the operands of the instructions that are tried.
func operands() []xinst.Opd {
	l := []xinst.Opd{{}, xinst.I()}
	for r := range 16 {
		l = append(l, xinst.R(r))
	}
	for _, p := range places {
		l = append(l, p.addr)
	}
	return l
}

// each calls f with valid instructions of all operations, widths, operands, conditions and prefixes, with numbers at the edges.
func each(f func(i xinst.Inst)) {
	numbers := []int64{0, 1, -1, 5, 127, 128, -128, -129, 255, 32767, -32768, 65535, 0x12345678, math.MaxInt32, math.MinInt32,
		math.MaxInt32 + 1, math.MinInt32 - 1, math.MaxInt64, math.MinInt64, 0x0123456789ABCDEF}
	full := func(i xinst.Inst) {
		for cc := range 16 {
			for set := range 4 {
				i.Cc, i.Lock, i.Rep = cc, set&1 != 0, set&2 != 0
				if xinst.May(i) {
					f(i)
				}
			}
		}
	}
	l := operands()
	for op := xinst.Add; op <= xinst.Ud; op++ {
		for _, w := range []int{1, 2, 4, 8} {
			for _, w2 := range []int{0, 1, 2, 4} {
				for _, a := range l {
					for _, b := range l {
						i := xinst.Inst{Op: op, W: w, W2: w2, A: a, B: b}
						if !xinst.May(i) {
							continue
						}
						for _, i.Imm = range numbers {
							if xinst.May(i) {
								full(i)
							}
						}
					}
				}
			}
		}
	}
}

// P7.1, P7.4: valid instructions of all kinds have the bytes of the table, which are decoded as the instruction again, with their length.
func TestEncodeAll(t *testing.T) {
	all := entries()
	seen := map[int]int{}
	each(func(i xinst.Inst) {
		seen[i.Op]++
		b, e := xenc.Encode(i)
		if want := expected(t, i, all); e != api.OK || !bytes.Equal(b, want) {
			t.Fatalf("%s: % x %d, not % x", xinst.Show(i), b, e, want)
		}
		j, e := xdec.Decode(append(b, 0x90, 0xFF))
		i.Len = len(b)
		if e != api.OK || j != i {
			t.Fatalf("%s: % x is %s %d %d", xinst.Show(i), b, xinst.Show(j), j.Len, e)
		}
	})
	if len(seen) != len(names) {
		t.Error("operations", len(seen))
	}
}

// P7.1: of all bytes that are decoded as an instruction with some address, the shortest are taken, and of these the least.
func TestAddresses(t *testing.T) {
	least := map[xinst.Inst][]byte{}
	try := func(b []byte) {
		i, e := xdec.Decode(b)
		if e != api.OK || i.Len != len(b) {
			return
		}
		i.Len = 0
		if old, ok := least[i]; !ok || len(b) < len(old) || len(b) == len(old) && bytes.Compare(b, old) < 0 {
			least[i] = slices.Clone(b)
		}
	}
	disps := []int64{0, 1, -1, 127, -128, 128, -129, 32768, math.MaxInt32, math.MinInt32}
	for rex := -1; rex < 16; rex++ {
		for modrm := range 0xC0 {
			// reg is 0 or 8, or 5 or 13.
			if k := modrm >> 3 & 7; k != 0 && k != 5 {
				continue
			}
			for sib := range 256 {
				if modrm&7 != 4 && sib > 0 {
					break
				}
				var b []byte
				if rex >= 0 {
					b = append(b, byte(0x40+rex))
				}
				b = append(b, 0x8D, byte(modrm))
				if modrm&7 == 4 {
					b = append(b, byte(sib))
				}
				b = slices.Clip(b)
				try(b)
				for _, d := range disps {
					try(append(b, lows(d, 1)...))
					try(append(b, lows(d, 4)...))
				}
			}
		}
	}
	// Two widths, four registers; without an index 18 bases (none and rip are two), with one of 15 indexes of four scales 17.
	if want := 2 * 4 * len(disps) * (18 + 17*15*4); len(least) != want {
		t.Errorf("%d addresses, not %d", len(least), want)
	}
	for i, want := range least {
		if b, e := xenc.Encode(i); e != api.OK || !bytes.Equal(b, want) {
			t.Fatalf("%s: % x %d, not % x", xinst.Show(i), b, e, want)
		}
	}
}

// The instructions of the examples.
func add() xinst.Inst {
	return xinst.Inst{Op: xinst.Add, W: 8, A: xinst.R(0), B: xinst.R(3)}
}

func jmp(imm int64) xinst.Inst {
	return xinst.Inst{Op: xinst.Jmp, W: 8, Imm: imm}
}

func jcc(imm int64) xinst.Inst {
	return xinst.Inst{Op: xinst.Jcc, W: 8, Cc: 5, Imm: imm}
}

func call(imm int64) xinst.Inst {
	return xinst.Inst{Op: xinst.Call, W: 8, Imm: imm}
}

func one(op int) xinst.Inst {
	return xinst.Inst{Op: op, W: 8}
}

// P7.1: instructions put into bytes by hand, the document's examples among them.
func TestByHand(t *testing.T) {
	r, m := xinst.R, xinst.M
	imm := xinst.I()
	for _, c := range []struct {
		i    xinst.Inst
		want string
	}{
		{add(), "48 01 d8"},
		{xinst.Inst{Op: xinst.Mov, W: 4, A: r(0), B: m(4, -1, 1, 8)}, "8b 44 24 08"},
		{jmp(-5), "e9 fb ff ff ff"},
		{xinst.Inst{Op: xinst.Add, W: 1, A: r(0), B: r(3)}, "00 d8"},
		{xinst.Inst{Op: xinst.Add, W: 4, A: r(0), B: imm, Imm: 1}, "81 c0 01 00 00 00"},
		{xinst.Inst{Op: xinst.Cmp, W: 2, A: m(16, -1, 1, 2), B: imm, Imm: -2}, "66 81 3d 02 00 00 00 fe ff"},
		{xinst.Inst{Op: xinst.Mov, W: 8, A: r(9), B: imm, Imm: math.MinInt32}, "49 c7 c1 00 00 00 80"},
		{xinst.Inst{Op: xinst.Mov, W: 8, A: r(9), B: imm, Imm: math.MaxInt32 + 1}, "49 b9 00 00 00 80 00 00 00 00"},
		{xinst.Inst{Op: xinst.Mov, W: 4, A: r(9), B: imm, Imm: -1}, "41 c7 c1 ff ff ff ff"},
		{xinst.Inst{Op: xinst.Mov, W: 1, A: r(4), B: imm, Imm: -1}, "40 b4 ff"},
		{xinst.Inst{Op: xinst.Mov, W: 1, A: r(3), B: r(7)}, "40 88 fb"},
		{xinst.Inst{Op: xinst.Mov, W: 1, A: m(7, -1, 1, 0), B: imm, Imm: -1}, "c6 07 ff"},
		{xinst.Inst{Op: xinst.Movzx, W: 4, W2: 1, A: r(4), B: r(3)}, "0f b6 e3"},
		{xinst.Inst{Op: xinst.Movzx, W: 4, W2: 1, A: r(3), B: r(4)}, "40 0f b6 dc"},
		{xinst.Inst{Op: xinst.Movsx, W: 4, W2: 2, A: r(3), B: r(4)}, "0f bf dc"},
		{xinst.Inst{Op: xinst.Movsx, W: 8, W2: 4, A: r(8), B: r(1)}, "4c 63 c1"},
		{xinst.Inst{Op: xinst.Push, W: 8, A: r(15)}, "41 57"},
		{xinst.Inst{Op: xinst.Push, W: 8, A: imm, Imm: 1}, "68 01 00 00 00"},
		{xinst.Inst{Op: xinst.Pop, W: 8, A: m(-1, -1, 1, 8)}, "8f 04 25 08 00 00 00"},
		{xinst.Inst{Op: xinst.Set, W: 1, Cc: 15, A: r(4)}, "40 0f 9f c4"},
		{xinst.Inst{Op: xinst.Shl, W: 1, A: r(0), B: imm, Imm: 255}, "c0 e0 ff"},
		{xinst.Inst{Op: xinst.Sar, W: 8, A: r(0), B: r(1)}, "48 d3 f8"},
		{xinst.Inst{Op: xinst.Shl, W: 4, A: r(0), B: imm, Imm: 1}, "c1 e0 01"},
		{xinst.Inst{Op: xinst.Xchg, W: 2, A: m(12, -1, 1, 0), B: r(0), Lock: true}, "f0 66 41 87 04 24"},
		{xinst.Inst{Op: xinst.Xchg, W: 4, A: r(3), B: r(0)}, "87 c3"},
		{xinst.Inst{Op: xinst.Movs, W: 2, Rep: true}, "f3 66 a5"},
		{xinst.Inst{Op: xinst.Stos, W: 8}, "48 ab"},
		{xinst.Inst{Op: xinst.Jmp, W: 8, A: r(8)}, "41 ff e0"},
		{xinst.Inst{Op: xinst.Call, W: 8, A: m(16, -1, 1, -6)}, "ff 15 fa ff ff ff"},
		{xinst.Inst{Op: xinst.Lea, W: 8, A: r(1), B: m(-1, 9, 8, -1)}, "4a 8d 0c cd ff ff ff ff"},
		{xinst.Inst{Op: xinst.Imuli, W: 2, A: r(1), B: r(2), Imm: 3}, "66 69 ca 03 00"},
		{jcc(-1), "0f 85 ff ff ff ff"},
		{one(xinst.Fence), "0f ae f0"},
	} {
		if b, e := xenc.Encode(c.i); e != api.OK || !bytes.Equal(b, code(c.want)) {
			t.Errorf("%s: % x %d, not %s", xinst.Show(c.i), b, e, c.want)
		}
	}
}

// P7.1: what is not valid is rejected, and the length does not matter.
func TestEncodeWrong(t *testing.T) {
	for _, i := range []xinst.Inst{
		{},
		{Op: -1},
		{Op: xinst.Ud + 1, W: 8},
		{Op: math.MaxInt, W: math.MinInt},
		{Op: xinst.Ret, W: 4},
		{Op: xinst.Add, W: 3, A: xinst.R(0), B: xinst.R(1)},
		{Op: xinst.Add, W: 4, A: xinst.R(16), B: xinst.R(1)},
		{Op: xinst.Add, W: 4, A: xinst.R(0), B: xinst.R(-1)},
		{Op: xinst.Add, W: 4, A: xinst.R(0)},
		{Op: xinst.Add, W: 4, A: xinst.R(0), B: xinst.R(1), Lock: true},
		{Op: xinst.Mov, W: 4, A: xinst.R(0), B: xinst.M(0, 4, 1, 0)},
		{Op: xinst.Mov, W: 4, A: xinst.R(0), B: xinst.M(17, -1, 1, 0)},
		{Op: xinst.Mov, W: 4, A: xinst.R(0), B: xinst.M(0, -1, 1, math.MaxInt32+1)},
		{Op: xinst.Mov, W: 4, A: xinst.R(0), B: xinst.I(), Imm: math.MaxInt32 + 1},
		{Op: xinst.Mov, W: 8, A: xinst.M(0, -1, 1, 0), B: xinst.I(), Imm: math.MaxInt32 + 1},
		{Op: xinst.Jcc, W: 8, Cc: 16},
		{Op: xinst.Jmp, W: 8, Imm: math.MaxInt64},
		{Op: xinst.Nop, W: 8, Len: 16},
		{Op: xinst.Nop, W: 8, Len: -1},
	} {
		if b, e := xenc.Encode(i); b != nil || e != api.ErrArg {
			t.Errorf("%+v: % x %d", i, b, e)
		}
	}
	for _, n := range []int{1, 3, 15} {
		i := add()
		i.Len = n
		if b, e := xenc.Encode(i); e != api.OK || len(b) != 3 {
			t.Errorf("Len %d: % x %d", n, b, e)
		}
	}
}

// P7.2: all bytes, and where each instruction starts.
func TestAll(t *testing.T) {
	b, at, e := xenc.All(add(), one(xinst.Nop), jmp(2), one(xinst.Fence))
	if e != api.OK || !bytes.Equal(b, code("48 01 d8 90 e9 02 00 00 00 0f ae f0")) || !slices.Equal(at, []int{0, 3, 4, 9, 12}) {
		t.Errorf("% x %v %d", b, at, e)
	}
	if b, at, e := xenc.All(); e != api.OK || len(b) != 0 || !slices.Equal(at, []int{0}) {
		t.Errorf("none: % x %v %d", b, at, e)
	}
	if b, at, e := xenc.All(add(), xinst.Inst{}); b != nil || at != nil || e != api.ErrArg {
		t.Errorf("invalid: % x %v %d", b, at, e)
	}
}

// P7.2: what All returns are the bytes of each instruction.
func TestAllJoins(t *testing.T) {
	var l []xinst.Inst
	var want []byte
	at := []int{0}
	n := 0
	each(func(i xinst.Inst) {
		if n++; n%97 != 0 || len(l) == 4096 {
			return
		}
		b, _ := xenc.Encode(i)
		l = append(l, i)
		want = append(want, b...)
		at = append(at, len(want))
	})
	b, starts, e := xenc.All(l...)
	if e != api.OK || !bytes.Equal(b, want) || !slices.Equal(starts, at) || len(l) < 1000 {
		t.Errorf("%d instructions, %d bytes, not %d: %d", len(l), len(b), len(want), e)
	}
}

// long returns so many of the longest instructions.
func long(n int) []xinst.Inst {
	i := xinst.Inst{Op: xinst.Add, W: 8, A: xinst.M(8, 9, 8, 1000), B: xinst.I(), Imm: 1000, Lock: true}
	return slices.Repeat([]xinst.Inst{i}, n)
}

// P7.2, P7.3: at most 4096 instructions; too many are told before those that are invalid, and these before jumps that lead nowhere.
func TestLimits(t *testing.T) {
	if b, at, e := xenc.All(long(4096)...); e != api.OK || len(b) != 13*4096 || len(at) != 4097 || at[4096] != len(b) {
		t.Errorf("most: %d bytes, %d starts, %d", len(b), len(at), e)
	}
	if l, e := xenc.Fix(long(4096)...); e != api.OK || len(l) != 4096 || l[4095].Len != 13 {
		t.Errorf("most: %d, %d", len(l), e)
	}
	for _, last := range []xinst.Inst{add(), {}, jmp(-1)} {
		l := append(long(4096), last)
		if b, at, e := xenc.All(l...); b != nil || at != nil || e != api.ErrLong {
			t.Errorf("All: %d %d %d", len(b), len(at), e)
		}
		if l, e := xenc.Fix(l...); l != nil || e != api.ErrLong {
			t.Errorf("Fix: %d %d", len(l), e)
		}
	}
	for _, c := range []struct {
		l    []xinst.Inst
		want api.Errno
	}{
		{nil, api.OK},
		{[]xinst.Inst{jmp(-1), {}}, api.ErrArg},
		{[]xinst.Inst{add(), jmp(math.MaxInt64)}, api.ErrArg},
		{[]xinst.Inst{jmp(-1)}, api.ErrRange},
		{[]xinst.Inst{jmp(2)}, api.ErrRange},
		{[]xinst.Inst{jmp(0), jcc(3)}, api.ErrRange},
		{[]xinst.Inst{call(math.MinInt32)}, api.ErrRange},
		{[]xinst.Inst{call(math.MaxInt32)}, api.ErrRange},
	} {
		if l, e := xenc.Fix(c.l...); len(l) != 0 || e != c.want {
			t.Errorf("%v: %v %d, not %d", c.l, l, e, c.want)
		}
	}
	if l, e := xenc.Fix(jmp(0), jcc(3), call(1)); e != api.OK || len(l) != 3 {
		t.Errorf("the first and the greatest index: %v %d", l, e)
	}
}

// P7.3: an example by hand, of which nothing else changes.
func TestFix(t *testing.T) {
	in := []xinst.Inst{
		jcc(3), // 6 bytes
		{Op: xinst.Mov, W: 4, A: xinst.R(0), B: xinst.I(), Imm: 2, Len: 1}, // 6 bytes
		jmp(1),         // 5 bytes
		call(0),        // 5 bytes
		call(7),        // 5 bytes
		jmp(5),         // 5 bytes
		one(xinst.Ret), // 1 byte
	}
	in[2].Len = 9
	in[5].Len = 5
	before := slices.Clone(in)
	out, e := xenc.Fix(in...)
	if e != api.OK || len(out) != len(in) {
		t.Fatalf("%v %d", out, e)
	}
	for k, want := range []struct {
		imm int64
		len int
	}{{11, 6}, {2, 6}, {-11, 5}, {-22, 5}, {6, 5}, {-5, 5}, {0, 1}} {
		i := before[k]
		i.Imm, i.Len = want.imm, want.len
		if out[k] != i {
			t.Errorf("%d: %+v, not %+v", k, out[k], i)
		}
	}
	if !slices.Equal(in, before) {
		t.Error("the argument is changed")
	}
}

// P7.3: jumps through a register or memory are no jumps of the list.
func TestFixOthers(t *testing.T) {
	in := []xinst.Inst{
		{Op: xinst.Jmp, W: 8, A: xinst.R(1)},
		{Op: xinst.Call, W: 8, A: xinst.M(16, -1, 1, 100)},
		{Op: xinst.Push, W: 8, A: xinst.I(), Imm: 100},
		{Op: xinst.Imuli, W: 4, A: xinst.R(1), B: xinst.R(2), Imm: -100},
	}
	out, e := xenc.Fix(in...)
	for k := range in {
		in[k].Len = []int{2, 6, 5, 6}[k]
	}
	if e != api.OK || !slices.Equal(out, in) {
		t.Errorf("%+v %d", out, e)
	}
}

// P7.5, P7.4: the jumps of any program lead to the instructions that they name, or to its end.
func TestJumpsLeadToStarts(t *testing.T) {
	var some []xinst.Inst
	n := 0
	each(func(i xinst.Inst) {
		if _, ok := i.Target(0); !ok {
			if n++; n%31 == 0 {
				some = append(some, i)
			}
		}
	})
	d := &dice{3}
	for range 300 {
		l := make([]xinst.Inst, 1+d.below(60))
		for k := range l {
			to := int64(d.below(len(l) + 1))
			l[k] = some[d.below(len(some))]
			if x := d.below(6); x < 3 {
				l[k] = []xinst.Inst{jmp(to), jcc(to), call(to)}[x]
			}
		}
		fixed, e := xenc.Fix(l...)
		if e != api.OK {
			t.Fatal(e)
		}
		b, starts, _ := xenc.All(fixed...)
		back, size, e := xdec.All(b, len(l)+1)
		if e != api.OK || size != len(b) || !slices.Equal(back, fixed) {
			t.Fatalf("decoded: %d of %d bytes, %d", size, len(b), e)
		}
		for k, i := range fixed {
			const base = 1 << 40
			at := uint64(base + starts[k])
			if to, ok := i.Target(at); ok && to != uint64(base+starts[l[k].Imm]) {
				t.Fatalf("%d: to %d, not %d", k, to-base, starts[l[k].Imm])
			}
			j := i
			j.Imm = l[k].Imm
			if _, ok := i.Target(at); !ok && i.Imm != l[k].Imm || !xinst.Same(j, l[k]) || i.Next(at) != uint64(base+starts[k+1]) {
				t.Fatalf("%d: %+v, not %+v", k, i, l[k])
			}
		}
	}
}

// Results are new memory.
func TestResultsAreCopies(t *testing.T) {
	in := []xinst.Inst{add(), jmp(0)}
	text := func() string {
		one, _ := xenc.Encode(add())
		b, at, _ := xenc.All(in...)
		l, _ := xenc.Fix(in...)
		return fmt.Sprint(one, b, at, l)
	}
	want := text()
	one, _ := xenc.Encode(add())
	b, at, _ := xenc.All(in...)
	l, _ := xenc.Fix(in...)
	one[0], b[0], at[0], l[0], l[1] = 1, 1, 1, xinst.Inst{}, xinst.Inst{}
	one, b, at, l = append(one, 1), append(b, 1), append(at, 1), append(l, xinst.Inst{})
	if got := text(); got != want {
		t.Errorf("%s, not %s (%d %d %d %d)", got, want, len(one), len(b), len(at), len(l))
	}
}
