package adec_test

import (
	"strconv"
	"strings"
	"testing"

	"calque/a64"
	"calque/adec"
	"calque/api"
	"calque/logim"
)

// patterns are the words of the operations, in the order of their numbers, as the manual of the architecture draws them: bits, and fields of a letter and how many bits they have. A small d or n is a register that is not Zr, a small m one that is neither D nor N; Z is the size, L a logical number, V one that is divided by the width, K the kind of a fence.
const patterns = `AddI 1001000100 I12 n5 d5
SubI 1101000100 I12 n5 d5
AddsI 1011000100 I12 n5 D5
SubsI 1111000100 I12 n5 D5
Add 10001011000 M5 S6 N5 D5
Sub 11001011000 M5 S6 N5 D5
Adds 10101011000 M5 S6 N5 D5
Subs 11101011000 M5 S6 N5 D5
And 10001010000 M5 S6 N5 D5
Orr 10101010000 M5 S6 N5 D5
Eor 11001010000 M5 S6 N5 D5
Ands 11101010000 M5 S6 N5 D5
AndI 100100100 L13 N5 d5
OrrI 101100100 L13 N5 d5
EorI 110100100 L13 N5 d5
Movz 110100101 S2 I16 D5
Movn 100100101 S2 I16 D5
Movk 111100101 S2 I16 D5
Madd 10011011000 M5 0 A5 N5 D5
Msub 10011011000 M5 1 A5 N5 D5
Umulh 10011011110 M5 011111 N5 D5
Smulh 10011011010 M5 011111 N5 D5
Udiv 10011010110 M5 000010 N5 D5
Sdiv 10011010110 M5 000011 N5 D5
Lslv 10011010110 M5 001000 N5 D5
Lsrv 10011010110 M5 001001 N5 D5
Asrv 10011010110 M5 001010 N5 D5
Rorv 10011010110 M5 001011 N5 D5
Ubfm 1101001101 R6 S6 N5 D5
Sbfm 1001001101 R6 S6 N5 D5
Csel 10011010100 M5 C4 00 N5 D5
Csinc 10011010100 M5 C4 01 N5 D5
Ldr Z2 11100101 V12 n5 D5
Str Z2 11100100 V12 n5 D5
Ldapr Z2 11100010111111110000 n5 D5
Stlr Z2 00100010011111111111 n5 D5
Ldaxr Z2 00100001011111111111 n5 D5
Stlxr Z2 001000000 m5 111111 n5 D5
Dmb 11010101000000110011 K4 10111111
B 000101 F26
Bcc 01010100 F19 0 C4
Cbz 10110100 F19 D5
Cbnz 10110101 F19 D5
Br 1101011000011111000000 N5 00000
Svc 11010100000 I16 00001
Brk 11010100001 I16 00000
Nop 11010101000000110010000000011111`

// spot is where a field stands in a word.
type spot struct {
	letter   byte
	at, size int
}

// pattern is the word of an operation: which bits are the same in all words, and which they are.
type pattern struct {
	op         int
	mask, same uint32
	spots      []spot
}

// read returns the patterns.
func read() []pattern {
	var l []pattern
	for line := range strings.Lines(patterns) {
		p := pattern{op: len(l) + 1}
		at := 32
		for _, part := range strings.Fields(line)[1:] {
			if strings.Trim(part, "01") != "" {
				size, err := strconv.Atoi(part[1:])
				if err != nil {
					panic(err)
				}
				at -= size
				p.spots = append(p.spots, spot{part[0], at, size})
				continue
			}
			for _, bit := range part {
				at--
				p.mask |= 1 << at
				p.same |= uint32(bit-'0') << at
			}
		}
		if at != 0 {
			panic(line)
		}
		l = append(l, p)
	}
	return l
}

// take puts a field of a word into an instruction, and reports whether it may be there.
func take(i *a64.Inst, w uint32, s spot) bool {
	v := int(w>>s.at) & (1<<s.size - 1)
	switch s.letter {
	case 'D', 'd':
		i.D = v
	case 'N', 'n':
		i.N = v
	case 'M', 'm':
		i.M = v
	case 'A':
		i.A = v
	case 'S':
		i.S = v
	case 'R':
		i.R = v
	case 'C':
		i.Cond = v
	case 'I', 'K':
		i.Imm = uint64(v)
	case 'V':
		i.Imm = uint64(v * i.W)
	case 'Z':
		i.W = []int{1, 2, 4, 8}[v]
	case 'F':
		i.Off = int64(v<<(64-s.size)) >> (64 - s.size) * 4
	}
	switch s.letter {
	case 'd', 'n':
		return v != 31
	case 'K':
		return v == 9 || v == 10 || v == 11
	case 'L':
		number, ok := logim.Decode(uint32(v))
		least, _ := logim.Encode(number)
		i.Imm = number
		return ok && least == uint32(v)
	}
	return true
}

// reading is the second reading of a word: the instruction of the only pattern that it is of.
func reading(l []pattern, w uint32) (a64.Inst, bool) {
	for _, p := range l {
		if w&p.mask != p.same {
			continue
		}
		i := a64.Inst{Op: p.op, W: 8}
		for _, s := range p.spots {
			if !take(&i, w, s) {
				return a64.Inst{}, false
			}
		}
		if p.op == a64.Stlxr && (i.M == i.D || i.M == i.N) {
			return a64.Inst{}, false
		}
		return i, true
	}
	return a64.Inst{}, false
}

// dice throws numbers, the same ones each time.
type dice struct{ n uint64 }

// word is any number.
func (d *dice) word() uint64 {
	d.n = d.n*6364136223846793005 + 1442695040888963407
	x := d.n ^ d.n>>29
	return x*0x9E3779B97F4A7C15 ^ x>>31
}

// of is a number below n.
func (d *dice) of(n int) int {
	return int(d.word() >> 33 % uint64(n))
}

// check checks a word against the second reading, and reports whether it is an instruction.
func check(t *testing.T, l []pattern, w uint32) bool {
	t.Helper()
	want, may := reading(l, w)
	got, ok := adec.Decode(w)
	if got != want || ok != may {
		t.Fatalf("Decode(%08X) = %+v, %t, want %+v, %t", w, got, ok, want, may)
	}
	if !ok {
		return false
	}
	if back, e := a64.Encode(got); back != w || e != api.OK {
		t.Fatalf("Decode(%08X) is %+v, whose word is %08X", w, got, back)
	}
	return true
}

// P21.1, P21.3: thrown words of all patterns, with all that their fields may be, and some with other bits.
func TestReading(t *testing.T) {
	l := read()
	d := dice{21}
	valid := map[int]int{}
	for k := range 600000 {
		p := l[k%len(l)]
		w := uint32(d.word())&^p.mask | p.same
		for range d.of(3) {
			// A word of few ones or of few zeros has fields that are 0 or Zr.
			w = w&uint32(d.word()) | p.same
		}
		if d.of(4) == 0 {
			w ^= 1 << d.of(32)
		}
		if check(t, l, w) {
			valid[p.op]++
		}
	}
	for _, p := range l {
		if valid[p.op] < 100 {
			t.Errorf("operation %d has %d valid words: too few to tell", p.op, valid[p.op])
		}
	}
}

// P21.1, P21.3: all words that differ from a known one in one bit or in two, those with any upper half, and many with another lower half.
func TestNear(t *testing.T) {
	l := read()
	for _, c := range known {
		for one := range 32 {
			for two := range one + 1 {
				check(t, l, c.word^1<<one^1<<two)
			}
		}
	}
	for half := range uint32(1 << 16) {
		for _, c := range []uint32{0, 0x7C20, 0x03BF, 0xFC20, 0x0001} {
			check(t, l, half<<16|c)
		}
	}
	for _, c := range known {
		for half := c.word % 5; half < 1<<16; half += 5 {
			check(t, l, c.word&^0xFFFF|half)
		}
	}
}

// P21.1: words of all numbers, far from one another.
func TestScattered(t *testing.T) {
	l := read()
	valid := 0
	const odd = 0x9E3779B1 // so that no word comes twice
	for k := range uint32(400000) {
		if check(t, l, k*odd) {
			valid++
		}
	}
	if valid < 4000 {
		t.Errorf("%d valid words: too few to tell", valid)
	}
}

// P21.1, P21.3: the instruction of every known word, with other numbers in its fields, is decoded from its word.
func TestBack(t *testing.T) {
	d := dice{3}
	valid := 0
	for _, c := range known {
		i, _ := adec.Decode(c.word)
		for range 3000 {
			j := i
			for range 1 + d.of(3) {
				spoil(&j, &d)
			}
			w, e := a64.Encode(j)
			if e != api.OK {
				continue
			}
			valid++
			if got, ok := adec.Decode(w); got != j || !ok {
				t.Fatalf("Decode(%08X) = %+v, %t, want %+v", w, got, ok, j)
			}
		}
	}
	if valid < 20000 {
		t.Errorf("%d valid instructions: too few to tell", valid)
	}
}

// spoil puts a thrown number into a field.
func spoil(i *a64.Inst, d *dice) {
	switch d.of(9) {
	case 0:
		i.D = d.of(32)
	case 1:
		i.N = d.of(32)
	case 2:
		i.M = d.of(32)
	case 3:
		i.A = d.of(32)
	case 4:
		i.Imm = []uint64{uint64(d.of(4096)), uint64(d.of(65536)), 9, 10, logim.Turned(2<<d.of(6), 1, d.of(2))}[d.of(5)]
	case 5:
		i.S = d.of(64) >> d.of(6)
	case 6:
		i.R = d.of(64)
	case 7:
		i.Cond = d.of(16)
	case 8:
		i.Off = (int64(d.word()) >> (37 + d.of(26))) * 4
	}
	if i.Op >= a64.Ldr && i.Op <= a64.Stlxr {
		i.W = 1 << d.of(4)
	}
}
