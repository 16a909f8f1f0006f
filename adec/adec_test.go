package adec_test

import (
	"math"
	"slices"
	"testing"

	"calque/a64"
	"calque/adec"
	"calque/api"
)

// known are words as an assembler makes them, with the texts of their instructions; all operations are there, in their order.
var known = []struct {
	word uint32
	text string
}{
	{0x91000000, "addi x0 x0 0"},
	{0x913FFFDE, "addi x30 x30 4095"},
	{0xD1004041, "subi x1 x2 16"},
	{0xB100047F, "addsi x31 x3 1"},
	{0xF1001C5F, "subsi x31 x2 7"},
	{0x8B031041, "add x1 x2 x3 4"},
	{0xCB0503E4, "sub x4 x31 x5 0"},
	{0xAB01FC21, "adds x1 x1 x1 63"},
	{0xEB01001F, "subs x31 x0 x1 0"},
	{0x8A040062, "and x2 x3 x4 0"},
	{0xAA0103E0, "orr x0 x31 x1 0"},
	{0xCA1F7FFF, "eor x31 x31 x31 31"},
	{0xEA0700FF, "ands x31 x7 x7 0"},
	{0x92401C20, "andi x0 x1 255"},
	{0xB200F3E5, "orri x5 x31 6148914691236517205"},
	{0xD2410041, "eori x1 x2 9223372036854775808"},
	{0xD2A000A3, "movz x3 5 1"},
	{0x929FFFE0, "movn x0 65535 0"},
	{0xF2FFFFFF, "movk x31 65535 3"},
	{0x9B027C20, "madd x0 x1 x2 x31"},
	{0x9B028C20, "msub x0 x1 x2 x3"},
	{0x9BC27C20, "umulh x0 x1 x2"},
	{0x9B427C20, "smulh x0 x1 x2"},
	{0x9AC20820, "udiv x0 x1 x2"},
	{0x9AC20C20, "sdiv x0 x1 x2"},
	{0x9AC22020, "lslv x0 x1 x2"},
	{0x9AC22420, "lsrv x0 x1 x2"},
	{0x9AC22820, "asrv x0 x1 x2"},
	{0x9ADF2FFF, "rorv x31 x31 x31"},
	{0xD343FC20, "ubfm x0 x1 63 3"},
	{0x937F0020, "sbfm x0 x1 0 63"},
	{0x9A820020, "csel x0 x1 x2 0"},
	{0x9A9FF7E0, "csinc x0 x31 x31 15"},
	{0xB9400820, "ldr.4 x0 x1 8"},
	{0x397FFFDF, "ldr.1 x31 x30 4095"},
	{0x793FFC62, "str.2 x2 x3 8190"},
	{0xF93FFC62, "str.8 x2 x3 32760"},
	{0xF8BFC0C5, "ldapr.8 x5 x6"},
	{0x38BFC020, "ldapr.1 x0 x1"},
	{0x089FFCC5, "stlr.1 x5 x6"},
	{0xC89FFFDF, "stlr.8 x31 x30"},
	{0x885FFCC5, "ldaxr.4 x5 x6"},
	{0x4807FCC5, "stlxr.2 x5 x6 x7"},
	{0xC81FFC21, "stlxr.8 x1 x1 x31"},
	{0xD50339BF, "dmb 9"},
	{0xD5033ABF, "dmb 10"},
	{0xD5033BBF, "dmb 11"},
	{0x17FFFFFF, "b -4"},
	{0x15FFFFFF, "b 134217724"},
	{0x16000000, "b -134217728"},
	{0x5400006B, "bcc 11 12"},
	{0x54800000, "bcc 0 -1048576"},
	{0x547FFFEF, "bcc 15 1048572"},
	{0xB4000041, "cbz x1 8"},
	{0xB5FFFFC3, "cbnz x3 -8"},
	{0xB57FFFFF, "cbnz x31 1048572"},
	{0xD61F03C0, "br x30"},
	{0xD61F03E0, "br x31"},
	{0xD4000001, "svc 0"},
	{0xD41FFFE1, "svc 65535"},
	{0xD42000A0, "brk 5"},
	{0xD43FFFE0, "brk 65535"},
	{0xD503201F, "nop"},
}

// P21.1: words of all operations, by hand, with the document's example.
func TestKnown(t *testing.T) {
	seen := map[int]bool{}
	for _, c := range known {
		i, ok := adec.Decode(c.word)
		if s := a64.Show(i); s != c.text || !ok {
			t.Errorf("Decode(%08X) = %s, %t, want %s", c.word, s, ok, c.text)
		}
		seen[i.Op] = true
	}
	if len(seen) != a64.Nop {
		t.Errorf("%d operations, want %d", len(seen), a64.Nop)
	}
}

// none are words that are no instructions, though most of them are near to one, with what they are to others.
var none = []struct {
	what  string
	words []uint32
}{
	{"nothing", []uint32{0, 1, math.MaxUint32, 0x74000000, 0x55000000, 0xD5000000}},
	{"adr", []uint32{0x10000000, 0x90000000}},
	{"sums and differences with a number, of 32 bits", []uint32{0x11001420, 0x51004041, 0x31000420, 0x71001C40}},
	{"a number shifted by twelve", []uint32{0x91401420, 0xF1400000}},
	{"sums and differences of the stack pointer", []uint32{0x9100001F, 0x910003E0, 0xD10003FF, 0xB10003E0, 0xF10003E0}},
	{"addg, and what is free beside it", []uint32{0x91800000, 0xD1C00000}},
	{"two registers, of 32 bits", []uint32{0x0B031041, 0x4B0503E4, 0x2A0103E0, 0x6A0700FF}},
	{"a shift that is not to the left", []uint32{0x8B431041, 0x8B831041, 0xCB4503E4, 0xAA4103E0, 0xAA8103E0, 0xAAC103E0}},
	{"an extended register", []uint32{0x8B200000, 0xEB20601F}},
	{"a complement", []uint32{0x8A240062, 0xAA2103E0, 0xCA2103E0, 0xEA2700FF}},
	{"adc, sbc", []uint32{0x9A020020, 0xDA020020}},
	{"bits of a number into the stack pointer", []uint32{0x92401C3F, 0xB200F3FF, 0xD241003F}},
	{"ands of a number", []uint32{0xF2401C20}},
	{"bits of a number, of 32 bits", []uint32{0x12001C20}},
	{"thirteen bits that are invalid", []uint32{0x9200F800, 0x9200FC00, 0x9240FC00, 0x9200F400, 0x92007C00, 0x92000000 | 0x2F<<10}},
	{"thirteen bits that are not the least", []uint32{0x9202F000, 0x92200000, 0x9228C000, 0xB23FF3E5, 0xD2310040 | 0x20<<10}},
	{"moves of 32 bits", []uint32{0x52A000A3, 0x129FFFE0, 0x72800000, 0x72E00000}},
	{"no move", []uint32{0xB2800000, 0xB280F3E5, 0xB29FFFE0}},
	{"three registers, of 32 bits", []uint32{0x1B027C20, 0x1B028C20, 0x1AC20820, 0x1AC22020}},
	{"other products", []uint32{0x9B227C20, 0x9BA27C20, 0x9B627C20, 0x9BC2FC20, 0x9B42FC20, 0x9BC27820, 0x9B420020}},
	{"others of two registers", []uint32{0x9AC20020, 0x9AC20420, 0x9AC21020, 0x9AC21420, 0x9AC23020, 0x9AC24020, 0x9AC26820, 0xBAC20820}},
	{"others of one register", []uint32{0xDAC00020, 0xDAC01020}},
	{"fields of 32 bits", []uint32{0x53037C20, 0x93037C20, 0xD303FC20}},
	{"bfm, extr", []uint32{0xB343FC20, 0xF343FC20, 0x93C20020}},
	{"csinv, csneg, and what is free beside the choices", []uint32{0xDA820020, 0xDA820420, 0x9A820820, 0x9A820C20, 0xBA820020}},
	{"csel of 32 bits, ccmp", []uint32{0x1A820020, 0xFA410000}},
	{"accesses at the stack pointer", []uint32{0x794003E0, 0xB90003E0, 0xF94003FF, 0xF8BFC3E0, 0xC89FFFE0, 0xC85FFFE0, 0xC802FFE0}},
	{"signed loads, a prefetch", []uint32{0xB9800820, 0x39800820, 0x39C00820, 0xF9800820, 0xF9C00820}},
	{"loads and stores of vectors", []uint32{0x3D400820, 0xFD000820, 0x3D800820}},
	{"other addresses", []uint32{0xF8400020, 0xF8408420, 0xF8626820, 0xF8000020}},
	{"bits beside those of ldapr", []uint32{0xF89FC020, 0xF8FFC020, 0xF8A0C020, 0xF8BFC420, 0xF8BFC820, 0xF83FC020, 0xF8BFE020, 0xF8BF8020}},
	{"ldxr, ldar, ldlar, stllr, stxr", []uint32{0xC85F7C20, 0xC8DFFC20, 0xC8DF7C20, 0xC89F7C20, 0xC8027C20}},
	{"accesses of pairs, cas", []uint32{0xC87FFC20, 0xC822FC20, 0xC8A2FC20}},
	{"bits beside those of ldaxr, stlr", []uint32{0xC85EFC20, 0xC85FF820, 0xC84FFC20, 0xC880FC20, 0xC89FBC20, 0xC897FC20}},
	{"stlxr with a register twice", []uint32{0xC801FC21, 0xC801FC41, 0xC802FC41, 0xC81FFC3F}},
	{"dmb of others", []uint32{0xD50330BF, 0xD50331BF, 0xD50338BF, 0xD5033CBF, 0xD5033DBF, 0xD5033EBF, 0xD5033FBF}},
	{"dsb, isb, clrex", []uint32{0xD5033B9F, 0xD5033FDF, 0xD5033B5F, 0xD503305F}},
	{"hints, and what is free beside nop", []uint32{0xD503203F, 0xD503205F, 0xD503241F, 0xD503211F, 0xD503200F, 0xD503301F}},
	{"registers of the system", []uint32{0xD5380000, 0xD51B4200, 0xD5033BBE, 0xD5033BA0}},
	{"bl", []uint32{0x94000000, 0x97FFFFFF}},
	{"cbz and cbnz of 32 bits, tbz, tbnz", []uint32{0x34000041, 0x35000041, 0x36000041, 0xB6000041, 0xB7000041}},
	{"bc", []uint32{0x5400007B, 0x54000010}},
	{"blr, ret, eret, braa", []uint32{0xD63F03C0, 0xD65F03C0, 0xD69F03E0, 0xD71F0BC0}},
	{"bits beside those of br", []uint32{0xD61F03C1, 0xD61F07C0, 0xD61E03C0, 0xD60F03C0}},
	{"hvc, smc, hlt, dcps", []uint32{0xD4000002, 0xD4000003, 0xD4400000, 0xD4A00001}},
	{"bits beside those of svc, brk", []uint32{0xD4000000, 0xD4000005, 0xD4000011, 0xD4200001, 0xD42000A4, 0xD4600001}},
	{"vectors, and atomic ones", []uint32{0x88200000, 0x4E228420, 0x1E622820, 0x04220020, 0xF8200020}},
}

// P21.1: words that are no instructions.
func TestNone(t *testing.T) {
	for _, c := range none {
		for _, w := range c.words {
			if i, ok := adec.Decode(w); ok || i != (a64.Inst{}) {
				t.Errorf("Decode(%08X) = %+v, %t, want none: %s", w, i, ok, c.what)
			}
		}
	}
}

// P21.1: of the thirteen bits that mean the same number, only the least ones are an instruction's.
func TestLeast(t *testing.T) {
	const base = 0x92000000 // andi x0 x0
	numbers := map[uint64]bool{}
	words := 0
	for b := range uint32(1 << 13) {
		w := base | b<<10
		i, ok := adec.Decode(w)
		if !ok {
			continue
		}
		words++
		numbers[i.Imm] = true
		if got, e := a64.Encode(i); got != w || e != api.OK {
			t.Errorf("Decode(%08X) is %+v with the word %08X", w, i, got)
		}
	}
	if words != 5334 || len(numbers) != 5334 {
		t.Errorf("%d words of %d numbers, want 5334", words, len(numbers))
	}
}

// words are those of the known instructions.
func words() []uint32 {
	var l []uint32
	for _, c := range known {
		l = append(l, c.word)
	}
	return l
}

// P21.2: All returns the instructions of all words and how many they are.
func TestAll(t *testing.T) {
	if l, n, ok := adec.All(); len(l) != 0 || n != 0 || !ok {
		t.Errorf("All() = %v, %d, %t", l, n, ok)
	}
	all := words()
	l, n, ok := adec.All(all...)
	if n != len(known) || len(l) != n || !ok {
		t.Fatalf("All(known) has %d, %d, %t", len(l), n, ok)
	}
	for k, i := range l {
		if a64.Show(i) != known[k].text {
			t.Errorf("instruction %d is %s, want %s", k, a64.Show(i), known[k].text)
		}
	}
	if !slices.Equal(all, words()) {
		t.Error("All changes its argument")
	}
	first := l[0]
	l[0].Op = 99
	_ = append(l, a64.Inst{})
	if again, _, _ := adec.All(all...); again[0] != first {
		t.Error("what is written into a result shows in a later one")
	}
}

// P21.2: with a word that is no instruction, All returns those before the first such word, and its index.
func TestAllWrong(t *testing.T) {
	good, _, _ := adec.All(words()...)
	for at := range known {
		for _, more := range []int{at, min(at+1, len(known)-1), len(known) - 1} {
			l := words()
			l[at], l[more] = 0, math.MaxUint32
			got, n, ok := adec.All(l...)
			if n != at || ok || !slices.Equal(got, good[:at]) {
				t.Fatalf("All with a wrong word at %d = %d instructions, %d, %t", at, len(got), n, ok)
			}
		}
	}
	if l, n, ok := adec.All(0); len(l) != 0 || n != 0 || ok {
		t.Errorf("All(0) = %v, %d, %t", l, n, ok)
	}
}
