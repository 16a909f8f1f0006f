package elf_test

import (
	"bytes"
	"encoding/hex"
	"fmt"
	"math"
	"strings"
	"testing"

	"calque/api"
	"calque/elf"
)

const (
	full    = 1 << 20
	noNum   = math.MaxUint64
	farSize = 1 << 32
	farAddr = 1 << 63
)

// sample is a file with some of everything.
func sample() elf.File {
	return elf.File{
		Machine: elf.X86,
		Entry:   0x401000,
		Segs: []elf.Seg{
			{Kind: elf.Load, Flags: elf.R | elf.X, Addr: 0x401000, Size: 3, Data: []byte{0xC3, 0x90, 0xCC}},
			{Kind: elf.Stack, Flags: elf.R | elf.W | elf.X, Addr: 0x700000, Size: 0x1000},
			{Kind: elf.Load, Flags: elf.R | elf.W, Addr: 0x500000, Size: 0x40, Data: []byte("0123456789abcdef!")},
		},
		Syms: []elf.Sym{
			{Name: "main", Kind: elf.Func, Addr: 0x401000, Size: 3},
			{Addr: 0x500000, Size: 0x40},
			{Name: "table", Kind: 1, Addr: 0x500008, Size: 16},
		},
		Rels: []elf.Rel{{At: 0x500000, Sym: 0, Add: 1}, {At: 0x500008, Sym: 2, Add: -8}},
	}
}

// Where the parts of the sample's bytes are.
const (
	segsAt  = 64
	dataAt  = 240
	moreAt  = 256 // the data of the second segment, which is none, and of the third
	symsAt  = 288
	namesAt = 384
	relsAt  = 400
	titleAt = 448
	headsAt = 496
	sampled = 816
)

// segAt and headAt are where the headers of a segment and of a section are.
func segAt(k int) int  { return segsAt + 56*k }
func symAt(k int) int  { return symsAt + 24*k }
func relAt(k int) int  { return relsAt + 24*k }
func headAt(k int) int { return headsAt + 64*k }

// The bytes of the sample, by the table of the document.
var sampleBytes = strings.Join([]string{
	"7F454C46 020101 000000000000000000", "0200 3E00", "01000000",
	"0010400000000000 4000000000000000 F001000000000000", "00000000", "4000 3800 0300 4000 0500 0400",

	"01000000 05000000", "F000000000000000 0010400000000000 0010400000000000 0300000000000000 0300000000000000 1000000000000000",
	"01000060 07000000", "0001000000000000 0000700000000000 0000700000000000 0000000000000000 0010000000000000 1000000000000000",
	"01000000 06000000", "0001000000000000 0000500000000000 0000500000000000 1100000000000000 4000000000000000 1000000000000000",

	"0000000000000000", "C390CC", "00000000000000000000000000",
	"30313233343536373839616263646566 21", "000000000000000000000000000000",

	"000000000000000000000000000000000000000000000000",
	"01000000 12 00 0100 0010400000000000 0300000000000000",
	"06000000 10 00 0100 0000500000000000 4000000000000000",
	"07000000 11 00 0100 0800500000000000 1000000000000000",
	"00 6D61696E00 00 7461626C6500", "000000",

	"0000500000000000 01000000 01000000 0100000000000000",
	"0800500000000000 01000000 03000000 F8FFFFFFFFFFFFFF",

	"00 2E73796D74616200 2E73747274616200 2E72656C6100 2E736873747274616200", "000000000000000000000000000000",

	"00000000000000000000000000000000 00000000000000000000000000000000 00000000000000000000000000000000 00000000000000000000000000000000",
	"01000000 02000000 0000000000000000 0000000000000000 2001000000000000 6000000000000000 02000000 01000000 0800000000000000 1800000000000000",
	"09000000 03000000 0000000000000000 0000000000000000 8001000000000000 0D00000000000000 00000000 00000000 0800000000000000 0000000000000000",
	"11000000 04000000 0000000000000000 0000000000000000 9001000000000000 3000000000000000 01000000 00000000 0800000000000000 1800000000000000",
	"17000000 03000000 0000000000000000 0000000000000000 C001000000000000 2100000000000000 00000000 00000000 0800000000000000 0000000000000000",
}, "")

func unhex(s string) []byte {
	b, e := hex.DecodeString(strings.ReplaceAll(s, " ", ""))
	if e != nil {
		panic(e)
	}
	return b
}

// put returns a copy of the bytes with a number of w bytes set.
func put(b []byte, at, w int, v uint64) []byte {
	out := bytes.Clone(b)
	for k := range w {
		out[at+k] = byte(v >> (8 * k))
	}
	return out
}

func get(b []byte, at, w int) uint64 {
	v := uint64(0)
	for k := range w {
		v |= uint64(b[at+k]) << (8 * k)
	}
	return v
}

// written are the bytes of a file that must be valid.
func written(t *testing.T, what string, f elf.File) []byte {
	t.Helper()
	b, e := elf.Write(f)
	if e != api.OK || len(b) == 0 {
		t.Fatalf("%s: Write: %d bytes, error %d", what, len(b), e)
	}
	return b
}

func parses(t *testing.T, what string, b []byte, want elf.File) {
	t.Helper()
	f, e := elf.Parse(b)
	if e != api.OK || !equal(f, want) {
		t.Errorf("%s: error %d, %s; want %s", what, e, short(f), short(want))
	}
}

func fails(t *testing.T, what string, b []byte) {
	t.Helper()
	f, e := elf.Parse(b)
	if e != api.ErrElf {
		t.Errorf("%s: error %d, want ErrElf; %s", what, e, short(f))
	}
	if !zero(f) {
		t.Errorf("%s: beside the error %s", what, short(f))
	}
}

// short tells of a file as much as can be read.
func short(f elf.File) string {
	s := fmt.Sprintf("%+v", f)
	return s[:min(len(s), 500)]
}

func zero(f elf.File) bool {
	return f.Machine == 0 && f.Entry == 0 && len(f.Segs)+len(f.Syms)+len(f.Rels) == 0
}

// equal is what Same must be, for those tests that are not of Same.
func equal(f, g elf.File) bool {
	if f.Machine != g.Machine || f.Entry != g.Entry || len(f.Segs) != len(g.Segs) || len(f.Syms) != len(g.Syms) || len(f.Rels) != len(g.Rels) {
		return false
	}
	for k, s := range f.Segs {
		u := g.Segs[k]
		if s.Kind != u.Kind || s.Flags != u.Flags || s.Addr != u.Addr || s.Size != u.Size || string(s.Data) != string(u.Data) {
			return false
		}
	}
	for k, s := range f.Syms {
		if s != g.Syms[k] {
			return false
		}
	}
	for k, r := range f.Rels {
		if r != g.Rels[k] {
			return false
		}
	}
	return true
}

// changed is a sample that is changed.
func changed(change func(*elf.File)) elf.File {
	f := sample()
	change(&f)
	return f
}

func load(addr, size uint64, data ...byte) elf.Seg {
	return elf.Seg{Kind: elf.Load, Flags: elf.R, Addr: addr, Size: size, Data: data}
}

func withSeg(s elf.Seg) elf.File { return elf.File{Machine: elf.X86, Segs: []elf.Seg{s}} }
func withSym(s elf.Sym) elf.File { return elf.File{Machine: elf.Arm, Syms: []elf.Sym{s}} }

// named is a file with some segments, symbols and relocations, all of them different.
func named(segs, syms, rels int) elf.File {
	f := elf.File{Machine: elf.Arm, Entry: noNum}
	for k := range segs {
		f.Segs = append(f.Segs, load(uint64(k)<<12, uint64(k)+3, bytes.Repeat([]byte{byte(k + 1)}, k)...))
	}
	for k := range syms {
		f.Syms = append(f.Syms, elf.Sym{Name: strings.Repeat("n", k%33), Kind: k % 3, Addr: uint64(k), Size: noNum - uint64(k)})
	}
	for k := range rels {
		f.Rels = append(f.Rels, elf.Rel{At: uint64(k) << 57, Sym: k % syms, Add: int64(k) - 2})
	}
	return f
}

// maybe is a file that may or may not be.
type maybe struct {
	what string
	f    elf.File
	may  bool
}

// files are files on both sides of each limit.
func files() []maybe {
	out := []maybe{
		{"sample", sample(), true},
		{"nothing", elf.File{}, false},
		{"24 segments", named(24, 0, 0), true},
		{"25 segments", named(25, 0, 0), false},
		{"64 symbols", named(0, 64, 0), true},
		{"65 symbols", named(0, 65, 0), false},
		{"64 relocations", named(0, 1, 64), true},
		{"65 relocations", named(0, 1, 65), false},
		{"all at the limit", named(24, 64, 64), true},
	}
	for _, m := range []int{elf.X86, elf.Arm} {
		out = append(out, maybe{"machine", elf.File{Machine: m}, true})
	}
	for _, m := range []int{0, 1, 3, 61, 63, 182, 184, -62, 62 + 1<<16, 183 + 1<<16, 62 + 1<<32, math.MaxInt, math.MinInt} {
		out = append(out, maybe{"no machine", elf.File{Machine: m}, false})
	}
	return append(append(out, segFiles()...), symFiles()...)
}

func segFiles() []maybe {
	var out []maybe
	add := func(what string, s elf.Seg, may bool) { out = append(out, maybe{what, withSeg(s), may}) }
	for fl := range 8 {
		add("flags", elf.Seg{Kind: elf.Load, Flags: fl}, true)
		add("flags of a stack", elf.Seg{Kind: elf.Stack, Flags: fl}, true)
	}
	for _, fl := range []int{8, 9, 15, 16, 1 << 31, 1 << 32, -1, -8, math.MaxInt, math.MinInt} {
		add("no flags", elf.Seg{Kind: elf.Load, Flags: fl}, false)
		add("no flags of a stack", elf.Seg{Kind: elf.Stack, Flags: fl}, false)
	}
	for _, k := range []int{0, 2, 3, 6, elf.Stack - 1, elf.Stack + 1, 0x60000000, elf.Stack + 1<<32, 1 + 1<<32, -1, math.MaxInt, math.MinInt} {
		add("no kind", elf.Seg{Kind: k}, false)
	}
	for _, k := range []int{elf.Load, elf.Stack} {
		add("size 0", elf.Seg{Kind: k}, true)
		add("size 2^32", elf.Seg{Kind: k, Size: farSize}, true)
		add("size 2^32+1", elf.Seg{Kind: k, Size: farSize + 1}, false)
		add("size 2^64-1", elf.Seg{Kind: k, Size: noNum}, false)
		add("addr 2^63", elf.Seg{Kind: k, Addr: farAddr, Size: farSize}, true)
		add("addr 2^63+1", elf.Seg{Kind: k, Addr: farAddr + 1}, false)
		add("addr 2^64-1", elf.Seg{Kind: k, Addr: noNum}, false)
		add("empty data", elf.Seg{Kind: k, Size: 8, Data: []byte{}}, true)
	}
	add("all data", load(0, 2, 1, 2), true)
	add("less data", load(0, 3, 1, 2), true)
	add("more data", load(0, 1, 1, 2), false)
	add("data of nothing", load(0, 0, 1), false)
	add("data of a stack", elf.Seg{Kind: elf.Stack, Size: 16, Data: []byte{0}}, false)
	for k := range 3 {
		out = append(out, maybe{"a wrong one among them", changed(func(f *elf.File) { f.Segs[k].Flags = 8 }), false})
	}
	return out
}

func symFiles() []maybe {
	var out []maybe
	add := func(what string, s elf.Sym, may bool) { out = append(out, maybe{what, withSym(s), may}) }
	for _, n := range []string{"", "a", ".symtab", "\xff\xfe", strings.Repeat("n", 32), strings.Repeat("ü", 16)} {
		add("name", elf.Sym{Name: n}, true)
	}
	for _, n := range []string{strings.Repeat("n", 33), strings.Repeat("ü", 17), strings.Repeat("n", full+1), "\x00", "a\x00", "\x00a", "a\x00b", strings.Repeat("n", 31) + "\x00"} {
		add("no name", elf.Sym{Name: n}, false)
	}
	for k := range 3 {
		add("kind", elf.Sym{Kind: k, Addr: noNum, Size: noNum}, true)
	}
	for _, k := range []int{-1, 3, 4, 15, 16, 18, 256, 1 << 32, math.MaxInt, math.MinInt} {
		add("no kind", elf.Sym{Kind: k}, false)
	}
	for k := range 3 {
		out = append(out, maybe{"a wrong one among them", changed(func(f *elf.File) { f.Syms[k].Kind = 3 }), false})
		out = append(out, maybe{"refers to one", changed(func(f *elf.File) { f.Rels[1].Sym = k }), true})
	}
	for _, k := range []int{-1, 3, 4, 64, 1 << 32, math.MaxInt, math.MinInt} {
		out = append(out, maybe{"refers to none", changed(func(f *elf.File) { f.Rels[1].Sym = k }), false})
	}
	out = append(out, maybe{"no symbols", elf.File{Machine: elf.X86, Rels: []elf.Rel{{}}}, false})
	out = append(out, maybe{"far", elf.File{Machine: elf.X86, Syms: []elf.Sym{{}}, Rels: []elf.Rel{{noNum, 0, math.MinInt64}, {0, 0, math.MaxInt64}}}, true})
	return out
}

// P3.1: May

func TestMay(t *testing.T) {
	for _, c := range files() {
		if elf.May(c.f) != c.may {
			t.Errorf("%s: May is %v: %s", c.what, !c.may, short(c.f))
		}
	}
}

// P3.1: Same

func TestSame(t *testing.T) {
	if !elf.Same(sample(), sample()) || !elf.Same(elf.File{}, elf.File{}) {
		t.Error("a file is not the same as itself")
	}
	for k, change := range []func(*elf.File){
		func(f *elf.File) { f.Machine = elf.Arm },
		func(f *elf.File) { f.Entry++ },
		func(f *elf.File) { f.Segs[0].Kind = elf.Stack },
		func(f *elf.File) { f.Segs[0].Flags = 4 },
		func(f *elf.File) { f.Segs[1].Addr++ },
		func(f *elf.File) { f.Segs[1].Size-- },
		func(f *elf.File) { f.Segs[2].Data[16]++ },
		func(f *elf.File) { f.Segs[2].Data = f.Segs[2].Data[:16] },
		func(f *elf.File) { f.Segs[2].Data = nil },
		func(f *elf.File) { f.Segs[1].Data = []byte{0} },
		func(f *elf.File) { f.Segs = f.Segs[:2] },
		func(f *elf.File) { f.Segs = f.Segs[1:] },
		func(f *elf.File) { f.Segs = nil },
		func(f *elf.File) { f.Segs[0], f.Segs[2] = f.Segs[2], f.Segs[0] },
		func(f *elf.File) { f.Syms[0].Name = "Main" },
		func(f *elf.File) { f.Syms[1].Name = "\x00" },
		func(f *elf.File) { f.Syms[1].Kind = 3 },
		func(f *elf.File) { f.Syms[2].Addr++ },
		func(f *elf.File) { f.Syms[2].Size++ },
		func(f *elf.File) { f.Syms = f.Syms[:2] },
		func(f *elf.File) { f.Syms[0], f.Syms[1] = f.Syms[1], f.Syms[0] },
		func(f *elf.File) { f.Rels[0].At++ },
		func(f *elf.File) { f.Rels[0].Sym = -1 },
		func(f *elf.File) { f.Rels[1].Add = 8 },
		func(f *elf.File) { f.Rels = f.Rels[:1] },
		func(f *elf.File) { f.Rels = append(f.Rels, f.Rels[1]) },
		func(f *elf.File) { f.Rels[0], f.Rels[1] = f.Rels[1], f.Rels[0] },
	} {
		f := changed(change)
		if elf.Same(f, sample()) || elf.Same(sample(), f) {
			t.Error("change", k, "is not seen")
		}
		if !elf.Same(f, changed(change)) {
			t.Error("change", k, "differs from itself")
		}
	}
	nils, empties := elf.File{Segs: []elf.Seg{{}}}, elf.File{Segs: []elf.Seg{{Data: []byte{}}}, Syms: []elf.Sym{}, Rels: []elf.Rel{}}
	if !elf.Same(nils, empties) || !elf.Same(empties, nils) || !elf.Same(elf.File{}, elf.File{Segs: []elf.Seg{}}) {
		t.Error("empty lists differ from nil ones")
	}
}

// P3.1: Write

func TestWriteSample(t *testing.T) {
	want := unhex(sampleBytes)
	if len(want) != sampled {
		t.Fatal("the sample has", len(want), "bytes")
	}
	got := written(t, "sample", sample())
	for k := range min(len(got), len(want)) {
		if got[k] != want[k] {
			t.Fatalf("byte %d is %#x, want %#x", k, got[k], want[k])
		}
	}
	if len(got) != len(want) {
		t.Errorf("%d bytes, want %d", len(got), len(want))
	}
	arm := sample()
	arm.Machine = elf.Arm
	if !bytes.Equal(written(t, "Arm", arm), put(want, 18, 2, 183)) {
		t.Error("the sample for Arm differs in more than the machine")
	}
}

// Example 1 of the chapter.
func TestWriteNothing(t *testing.T) {
	b := written(t, "nothing", elf.File{Machine: elf.X86})
	if len(b) != 464 || get(b, 40, 8) != 144 {
		t.Error(len(b), "bytes, section headers at", get(b, 40, 8))
	}
	parses(t, "nothing", b, elf.File{Machine: elf.X86})
}

func TestWriteOnlyValid(t *testing.T) {
	for _, c := range files() {
		b, e := elf.Write(c.f)
		switch {
		case c.may && (e != api.OK || len(b) == 0):
			t.Errorf("%s: error %d", c.what, e)
		case !c.may && (e != api.ErrElf || len(b) != 0):
			t.Errorf("%s: %d bytes, error %d, want ErrElf", c.what, len(b), e)
		}
	}
}

// With one segment of n bytes, a multiple of 16, a file has 528 + n bytes.
func TestWriteAtTheLimit(t *testing.T) {
	data := bytes.Repeat([]byte{7}, full)
	exact := withSeg(load(0, farSize, data[:full-528]...))
	b := written(t, "2^20 bytes", exact)
	if len(b) != full {
		t.Error(len(b), "bytes, want 2^20")
	}
	parses(t, "2^20 bytes", b, exact)
	fails(t, "2^20 bytes and one more", append(b, 0))
	parses(t, "one byte less", b[:full], exact)
	for _, n := range []int{full - 527, full - 512, full} {
		f := withSeg(load(0, farSize, data[:n]...))
		if b, e := elf.Write(f); e != api.ErrSize || len(b) != 0 {
			t.Errorf("%d bytes of data: %d bytes, error %d", n, len(b), e)
		}
		f.Machine = 0
		if _, e := elf.Write(f); e != api.ErrElf {
			t.Error("invalid and too large: error", e)
		}
	}
	many := named(24, 64, 64)
	for k := range many.Segs {
		many.Segs[k] = load(0, farSize, data...)
	}
	if b, e := elf.Write(many); e != api.ErrSize || len(b) != 0 {
		t.Error("24 segments of 2^20 bytes: error", e)
	}
	for k := range many.Segs {
		many.Segs[k].Data = data[:full/24]
	}
	if b, e := elf.Write(many); e != api.ErrSize || len(b) != 0 {
		t.Error("24 segments of 2^20 bytes together: error", e)
	}
}

// A part that ends at a multiple of 16 has nothing behind it.
func TestWriteEachLength(t *testing.T) {
	for n := range 40 {
		f := sample()
		f.Segs[0].Size, f.Segs[0].Data = 64, bytes.Repeat([]byte{1}, n)
		f.Syms[1].Name = strings.Repeat("s", n%33)
		b := written(t, "lengths", f)
		more := (dataAt+n+15)/16*16 - moreAt
		names := namesAt + more + 13 + n%33
		for at, want := range map[int]uint64{segAt(0) + 8: dataAt, segAt(1) + 8: uint64(moreAt + more), segAt(2) + 8: uint64(moreAt + more), 40: uint64(len(b) - 320)} {
			if get(b, at, 8) != want {
				t.Errorf("%d bytes: offset at %d is %d, want %d", n, at, get(b, at, 8), want)
			}
		}
		rels := (names + 15) / 16 * 16
		heads := (rels + 48 + 33 + 15) / 16 * 16
		for k, want := range []int{0, symsAt + more, namesAt + more, rels, rels + 48} {
			if get(b, heads+64*k+24, 8) != uint64(want) {
				t.Errorf("%d bytes: section %d is at %d, want %d", n, k, get(b, heads+64*k+24, 8), want)
			}
		}
		parses(t, "lengths", b, f)
	}
}

func TestWriteKeepsNothing(t *testing.T) {
	f := sample()
	b := written(t, "sample", f)
	if !equal(f, sample()) {
		t.Error("Write changes the file")
	}
	f.Segs[0].Data[0], f.Segs[2].Data[0] = 1, 1
	if b[dataAt] != 0xC3 || b[moreAt] != '0' {
		t.Error("the bytes are the segment's own")
	}
	again := sample()
	room := make([]byte, 3, 64)
	again.Segs[0].Data = room
	c := written(t, "again", again)
	c[0], c[dataAt] = 0, 9
	if room[0] != 0 || !bytes.Equal(room[:64][3:], make([]byte, 61)) || b[0] != 0x7F {
		t.Error("what is written into the bytes is seen elsewhere")
	}
	if !bytes.Equal(written(t, "sample", sample()), unhex(sampleBytes)) {
		t.Error("a second Write gives other bytes")
	}
}

// P3.2, P3.4: Parse inverts Write

func TestRoundTrip(t *testing.T) {
	for _, c := range files() {
		if !c.may {
			continue
		}
		b, e := elf.Write(c.f)
		if e != api.OK {
			t.Errorf("%s: Write: error %d", c.what, e)
			continue
		}
		keep := bytes.Clone(b)
		parses(t, c.what, b, c.f)
		if !bytes.Equal(b, keep) {
			t.Errorf("%s: Parse changes the bytes", c.what)
		}
	}
	for segs := range 25 {
		f := named(segs, segs*63/24+1, segs*64/24)
		parses(t, "some", written(t, "some", f), f)
	}
}

func TestParseShort(t *testing.T) {
	b := unhex(sampleBytes)
	// The section headers are the last part, so that no beginning of the bytes is a file.
	for n := range b {
		fails(t, "a beginning", b[:n])
	}
	fails(t, "nil", nil)
	for _, n := range []int{1, 15, 16, 100, full - sampled} {
		parses(t, "more behind", append(bytes.Clone(b), make([]byte, n)...), sample())
	}
	fails(t, "too much behind", append(bytes.Clone(b), make([]byte, full-sampled+1)...))
	fails(t, "noughts", make([]byte, 1000))
}

// The least file is its first 64 bytes.
func TestParseHeaderAlone(t *testing.T) {
	b := put(put(unhex(sampleBytes)[:64], 56, 2, 0), 60, 2, 0)
	want := elf.File{Machine: elf.X86, Entry: 0x401000}
	for n := range 64 {
		fails(t, "less than a header", put(put(b, 32, 8, 0), 40, 8, 0)[:n])
	}
	for _, at := range []uint64{0, 1, 63, 64} {
		parses(t, "a header", put(put(b, 32, 8, at), 40, 8, 0), want)
		parses(t, "a header", put(put(b, 32, 8, 0), 40, 8, at), want)
	}
	for _, at := range []uint64{65, 1 << 32, noNum, noNum - 63} {
		fails(t, "no headers, beyond", put(put(b, 32, 8, at), 40, 8, 0))
		fails(t, "no headers, beyond", put(put(b, 32, 8, 0), 40, 8, at))
	}
	fails(t, "a section", put(put(b, 60, 2, 1), 40, 8, 64))
	parses(t, "the header as a section", put(put(b, 60, 2, 1), 40, 8, 0), want)
	parses(t, "the header as a segment", put(put(put(b, 56, 2, 1), 32, 8, 8), 40, 8, 0), want)
	fails(t, "the header as a segment, one byte further", put(put(put(b, 56, 2, 1), 32, 8, 9), 40, 8, 0))
}

// patch is a number that is written into the sample's bytes.
type patch struct {
	what  string
	at, w int
	v     uint64
}

func (p patch) on(b []byte) []byte { return put(b, p.at, p.w, p.v) }

func TestParseHeader(t *testing.T) {
	b := unhex(sampleBytes)
	for k := range 16 {
		fails(t, "one of the first 16 bytes", put(b, k, 1, uint64(b[k])^1))
		fails(t, "one of the first 16 bytes", put(b, k, 1, uint64(b[k])^128))
	}
	for _, p := range []patch{
		{"type", 16, 2, 1}, {"type", 16, 2, 3}, {"type", 16, 2, 0x102},
		{"machine", 18, 2, 0}, {"machine", 18, 2, 61}, {"machine", 18, 2, 40}, {"machine", 18, 2, 62 << 8}, {"machine", 18, 2, 0x13E}, {"machine", 18, 2, 0x1B7},
		{"version", 20, 4, 0}, {"version", 20, 4, 2}, {"version", 20, 4, 1<<24 + 1},
		{"header length", 52, 2, 63}, {"header length", 52, 2, 0}, {"header length", 52, 2, 64 + 256},
		{"segment header's length", 54, 2, 64}, {"segment header's length", 54, 2, 0}, {"segment header's length", 54, 2, 56 + 256},
		{"section header's length", 58, 2, 56}, {"section header's length", 58, 2, 0}, {"section header's length", 58, 2, 64 + 256},
		{"24 segments beyond the bytes", 56, 2, 24}, {"25 segments", 56, 2, 25}, {"2^16-1 segments", 56, 2, 0xFFFF},
		{"6 sections", 60, 2, 6}, {"17 sections", 60, 2, 17}, {"2^16-1 sections", 60, 2, 0xFFFF},
	} {
		fails(t, p.what, p.on(b))
	}
	for _, p := range []patch{
		{"flags", 48, 4, math.MaxUint32},
		{"number of the names' section", 62, 2, 0}, {"number of the names' section", 62, 2, 0xFFFF},
		{"one section less", 60, 2, 4},
	} {
		parses(t, p.what, p.on(b), sample())
	}
	parses(t, "Arm", put(b, 18, 2, 183), changed(func(f *elf.File) { f.Machine = elf.Arm }))
	parses(t, "entry", put(b, 24, 8, noNum), changed(func(f *elf.File) { f.Entry = noNum }))
	parses(t, "no relocations", put(b, 60, 2, 3), changed(func(f *elf.File) { f.Rels = nil }))
	parses(t, "no sections", put(b, 60, 2, 0), changed(func(f *elf.File) { f.Syms, f.Rels = nil, nil }))
	parses(t, "one section", put(b, 60, 2, 1), changed(func(f *elf.File) { f.Syms, f.Rels = nil, nil }))
	fails(t, "symbols without names", put(b, 60, 2, 2))
	parses(t, "two segments", put(b, 56, 2, 2), changed(func(f *elf.File) { f.Segs = f.Segs[:2] }))
	parses(t, "no segments", put(b, 56, 2, 0), changed(func(f *elf.File) { f.Segs = nil }))
}

// far are offsets that no file has; n bytes from some of them on would wrap to offsets that it has.
func far(size, n int) []uint64 {
	return []uint64{uint64(size) + 1, full, full + 1, 1 << 31, 1 << 32, 1<<32 + 64, 1 << 62, 1 << 63, 1<<63 + 64, noNum, noNum - 1, noNum - 7, -uint64(n), -uint64(n) + 1, -uint64(n / 2), -uint64(n) - 1, -uint64(size), -uint64(size) + 64}
}

func TestParseFar(t *testing.T) {
	b := unhex(sampleBytes)
	for _, p := range []struct {
		what       string
		at, n, len int // where the offset is, its part's length, and where the length is
	}{
		{"segment headers", 32, 3 * 56, 0},
		{"section headers", 40, 5 * 64, 0},
		{"data of the first segment", segAt(0) + 8, 3, segAt(0) + 32},
		{"data of the third segment", segAt(2) + 8, 17, segAt(2) + 32},
		{"symbols", headAt(1) + 24, 96, headAt(1) + 32},
		{"names", headAt(2) + 24, 13, headAt(2) + 32},
		{"relocations", headAt(3) + 24, 48, headAt(3) + 32},
	} {
		for _, v := range far(sampled, p.n) {
			fails(t, p.what+" far away", put(b, p.at, 8, v))
		}
		fails(t, p.what+" at the end", put(b, p.at, 8, sampled))
		fails(t, p.what+" with one byte beyond the end", put(b, p.at, 8, uint64(sampled-p.n+1)))
		if p.len == 0 {
			continue
		}
		at := get(b, p.at, 8)
		for _, n := range []uint64{sampled - at + 1, sampled, full, full + 1, 1 << 32, 1 << 63, noNum, -at, -at - 1, -at + 1, -at + 64} {
			// The segments of the sample are large enough for such Data, so that this isn't the reason.
			wide := put(put(b, segAt(0)+40, 8, farSize), segAt(2)+40, 8, farSize)
			fails(t, p.what+" that are long", put(wide, p.len, 8, n))
		}
	}
}

// Parts at the end of the bytes: the last byte is theirs, and with one byte less they are no part of it.
func TestParseAtTheEnd(t *testing.T) {
	b := unhex(sampleBytes)
	for _, p := range []struct {
		what      string
		at        int
		from, end int
	}{
		{"segment headers", 32, segsAt, dataAt - 8},
		{"data", segAt(2) + 8, moreAt, moreAt + 17},
		{"symbols", headAt(1) + 24, symsAt, namesAt},
		{"names", headAt(2) + 24, namesAt, namesAt + 13},
		{"relocations", headAt(3) + 24, relsAt, titleAt},
		{"section headers", 40, headsAt, sampled},
	} {
		moved := append(put(b, p.at, 8, sampled), b[p.from:p.end]...)
		if p.from == headsAt {
			clear(moved[p.from:p.end])
		}
		parses(t, p.what+" at the end", moved, sample())
		fails(t, p.what+" without the last byte", moved[:len(moved)-1])
		fails(t, p.what+" one byte further", put(moved, p.at, 8, sampled+1))
	}
}

// Parsing does not depend on the order of the parts: here they stand backwards, before them nothing that the headers name.
func TestParseBackwards(t *testing.T) {
	b := unhex(sampleBytes)
	out := bytes.Clone(b[:64])
	move := func(from, end int) uint64 {
		at := len(out)
		out = append(out, b[from:end]...)
		return uint64(at)
	}
	heads := move(headsAt, sampled)
	rels, names, syms := move(relsAt, titleAt), move(namesAt, namesAt+13), move(symsAt, namesAt)
	last, first := move(moreAt, moreAt+17), move(dataAt, dataAt+3)
	segs := move(segsAt, dataAt-8)
	for at, v := range map[uint64]uint64{32: segs, 40: heads, heads + 64 + 24: syms, heads + 128 + 24: names, heads + 192 + 24: rels, segs + 8: first, segs + 112 + 8: last} {
		out = put(out, int(at), 8, v)
	}
	parses(t, "backwards", out, sample())
	fails(t, "backwards, without the last byte", out[:len(out)-1])
}

func TestParseOverlap(t *testing.T) {
	b := unhex(sampleBytes)
	whole := put(put(put(b, segAt(0)+8, 8, 0), segAt(0)+32, 8, sampled), segAt(0)+40, 8, sampled)
	parses(t, "a segment of all bytes", whole, changed(func(f *elf.File) { f.Segs[0].Size, f.Segs[0].Data = sampled, whole }))
	parses(t, "two segments of the same bytes", put(put(b, segAt(0)+8, 8, moreAt), 64, 1, 1), changed(func(f *elf.File) { f.Segs[0].Data = []byte("012") }))
}

// Which numbers of the headers count, and which do not.

func TestParseSegments(t *testing.T) {
	b := unhex(sampleBytes)
	for _, p := range []patch{
		{"flags", segAt(0) + 4, 4, 8}, {"flags", segAt(1) + 4, 4, 1 << 31}, {"flags", segAt(2) + 4, 4, 0x106},
		{"size", segAt(0) + 40, 8, 2}, {"size", segAt(1) + 40, 8, farSize + 1}, {"size", segAt(2) + 40, 8, 16}, {"size", segAt(2) + 40, 8, noNum},
		{"addr", segAt(0) + 16, 8, farAddr + 1}, {"addr", segAt(1) + 16, 8, noNum},
		{"data of a stack", segAt(1) + 32, 8, 1},
		{"kind of a segment with data", segAt(0), 4, elf.Stack},
		{"more data than size", segAt(0) + 32, 8, 4},
	} {
		fails(t, p.what, p.on(b))
	}
	for k := range 3 {
		parses(t, "second address", put(b, segAt(k)+24, 8, noNum), sample())
		parses(t, "alignment", put(b, segAt(k)+48, 8, noNum), sample())
		parses(t, "flags", put(b, segAt(k)+4, 4, 2), changed(func(f *elf.File) { f.Segs[k].Flags = 2 }))
		parses(t, "addr", put(b, segAt(k)+16, 8, farAddr), changed(func(f *elf.File) { f.Segs[k].Addr = farAddr }))
		parses(t, "size", put(b, segAt(k)+40, 8, farSize), changed(func(f *elf.File) { f.Segs[k].Size = farSize }))
	}
	parses(t, "less data", put(b, segAt(2)+32, 8, 5), changed(func(f *elf.File) { f.Segs[2].Data = []byte("01234") }))
	parses(t, "no data", put(b, segAt(2)+32, 8, 0), changed(func(f *elf.File) { f.Segs[2].Data = nil }))
	parses(t, "a stack without data elsewhere", put(b, segAt(1)+8, 8, sampled), sample())
	fails(t, "a stack without data beyond", put(b, segAt(1)+8, 8, sampled+1))
	parses(t, "a stack that is loaded", put(b, segAt(1), 4, elf.Load), changed(func(f *elf.File) { f.Segs[1].Kind = elf.Load }))
}

func TestParseOtherSegments(t *testing.T) {
	b := unhex(sampleBytes)
	for _, kind := range []uint64{0, 2, 3, 4, 6, 7, 0x60000000, 0x60000002, 0x6474E551, math.MaxUint32} {
		for k := range 3 {
			other := put(b, segAt(k), 4, kind)
			want := changed(func(f *elf.File) { f.Segs = append(f.Segs[:k], f.Segs[k+1:]...) })
			parses(t, "a segment of another kind", other, want)
			for _, at := range []int{8, 16, 24, 32, 40, 48} {
				other = put(other, segAt(k)+at, 8, noNum)
			}
			parses(t, "a segment of another kind that can't be", put(other, segAt(k)+4, 4, math.MaxUint32), want)
		}
	}
}

// spread is the sample with its n segment headers, of which all but three are of other kinds, at the end.
func spread(n int) []byte {
	b := unhex(sampleBytes)
	out := put(put(b, 32, 8, sampled), 56, 2, uint64(n))
	for k := range n {
		if k < n-3 {
			out = append(out, bytes.Repeat([]byte{0xEE}, 56)...)
		} else {
			out = append(out, b[segAt(k-n+3):segAt(k-n+4)]...)
		}
	}
	return out
}

func TestParseManyHeaders(t *testing.T) {
	for _, n := range []int{3, 4, 23, 24} {
		parses(t, "segment headers", spread(n), sample())
	}
	fails(t, "25 segment headers", spread(25))
	fails(t, "26 segment headers", spread(26))
	b := unhex(sampleBytes)
	for n := 6; n <= 17; n++ {
		more := put(b, 60, 2, uint64(n))
		for range n - 5 {
			// Sections of other types, and of names that no one is linked to, may be anywhere.
			more = append(more, bytes.Repeat([]byte{0xEE}, 64)...)
			more = put(more, len(more)-60, 4, uint64([]int{0, 1, 3, 5, 0xFFFFFFFF}[n%5]))
		}
		if n <= 16 {
			parses(t, "sections", more, sample())
			fails(t, "sections, without the last byte", more[:len(more)-1])
		} else {
			fails(t, "17 sections", more)
		}
	}
}

func TestParseSections(t *testing.T) {
	b := unhex(sampleBytes)
	for _, p := range []patch{
		{"symbols twice", headAt(0) + 4, 4, 2}, {"symbols twice", headAt(4) + 4, 4, 2},
		{"relocations twice", headAt(0) + 4, 4, 4}, {"relocations twice", headAt(4) + 4, 4, 4},
		{"names of no strings", headAt(2) + 4, 4, 1}, {"names of no strings", headAt(2) + 4, 4, 0x103},
		{"linked to itself", headAt(1) + 40, 4, 1}, {"linked to null", headAt(1) + 40, 4, 0}, {"linked to relocations", headAt(1) + 40, 4, 3},
		{"linked to none", headAt(1) + 40, 4, 5}, {"linked to none", headAt(1) + 40, 4, 16}, {"linked to none", headAt(1) + 40, 4, math.MaxUint32},
		{"relocations without symbols", headAt(1) + 4, 4, 0},
	} {
		fails(t, p.what, p.on(b))
	}
	// What the document does not name.
	for k := range 5 {
		for _, p := range []patch{{"name", 0, 4, math.MaxUint32}, {"flags", 8, 8, noNum}, {"address", 16, 8, noNum}, {"information", 44, 4, math.MaxUint32}, {"alignment", 48, 8, noNum}, {"entry's length", 56, 8, noNum}} {
			p.at += headAt(k)
			parses(t, p.what+" of a section", p.on(b), sample())
		}
		if k == 0 || k == 4 {
			parses(t, "offset", put(put(b, headAt(k)+24, 8, noNum), headAt(k)+32, 8, noNum), sample())
		}
		if k != 1 {
			parses(t, "link", put(b, headAt(k)+40, 4, math.MaxUint32), sample())
		}
	}
	parses(t, "no relocations", put(b, headAt(3)+4, 4, 9), changed(func(f *elf.File) { f.Rels = nil }))
	parses(t, "nothing", put(put(b, headAt(3)+4, 4, 0), headAt(1)+4, 4, 0), changed(func(f *elf.File) { f.Syms, f.Rels = nil, nil }))
	parses(t, "linked to the section names", put(b, headAt(1)+40, 4, 4), changed(func(f *elf.File) {
		f.Syms[0].Name, f.Syms[1].Name, f.Syms[2].Name = ".symtab", "ab", "b"
	}))
}

// Symbols

func TestParseSymbols(t *testing.T) {
	b := unhex(sampleBytes)
	for kind := range 16 {
		for _, high := range []uint64{0, 0x10, 0x20, 0xF0} {
			c := put(b, symAt(2)+4, 1, high+uint64(kind))
			if kind > 2 {
				fails(t, "kind", c)
			} else {
				parses(t, "kind", c, changed(func(f *elf.File) { f.Syms[1].Kind = kind }))
			}
		}
	}
	parses(t, "what follows the kind", put(b, symAt(1)+5, 3, noNum), sample())
	parses(t, "addr", put(b, symAt(1)+8, 8, noNum), changed(func(f *elf.File) { f.Syms[0].Addr = noNum }))
	parses(t, "size", put(b, symAt(3)+16, 8, noNum), changed(func(f *elf.File) { f.Syms[2].Size = noNum }))
	parses(t, "the first entry", put(put(put(b, symAt(0), 8, noNum), symAt(0)+8, 8, noNum), symAt(0)+16, 8, noNum), sample())
	for _, n := range []uint64{72, 73, 95} {
		c := put(put(b, headAt(1)+32, 8, n), relAt(1)+12, 4, 2)
		parses(t, "a symbol that is not complete", c, changed(func(f *elf.File) { f.Syms, f.Rels[1].Sym = f.Syms[:2], 1 }))
		fails(t, "a relocation of a symbol that is not complete", put(b, headAt(1)+32, 8, n))
	}
	parses(t, "more than the symbols", put(b, headAt(1)+32, 8, 96+7), sample())
	for _, n := range []uint64{0, 1, 23, 24, 25, 47} {
		c := put(put(b, headAt(1)+32, 8, n), headAt(3)+4, 4, 0)
		parses(t, "no symbols", c, changed(func(f *elf.File) { f.Syms, f.Rels = nil, nil }))
		fails(t, "no symbols, and no names", put(c, headAt(1)+40, 4, 5))
		fails(t, "no symbols, and names of no strings", put(c, headAt(2)+4, 4, 1))
		fails(t, "no symbols, and names beyond", put(c, headAt(2)+32, 8, sampled-namesAt+1))
		fails(t, "no symbols, beyond", put(c, headAt(1)+24, 8, sampled-n+1))
		fails(t, "relocations without symbols", put(b, headAt(1)+32, 8, n))
	}
}

func TestParseNames(t *testing.T) {
	b := unhex(sampleBytes)
	for at, name := range []string{"", "main", "ain", "in", "n", "", "", "table", "able", "ble", "le", "e", ""} {
		parses(t, "name", put(b, symAt(2), 4, uint64(at)), changed(func(f *elf.File) { f.Syms[1].Name = name }))
	}
	for _, at := range []uint64{13, 14, 16, 400, 448, sampled, 1 << 31, math.MaxUint32} {
		fails(t, "a name beyond the names", put(b, symAt(2), 4, at))
	}
	// A byte 0 behind the names is none of theirs.
	fails(t, "a name without an end", put(b, headAt(2)+32, 8, 12))
	parses(t, "a name that ends with the names", put(put(b, headAt(2)+32, 8, 7), symAt(3), 4, 6), changed(func(f *elf.File) { f.Syms[2].Name = "" }))
	fails(t, "names of no bytes", put(b, headAt(2)+32, 8, 0))
	long := append(put(put(b, headAt(2)+24, 8, sampled-1), headAt(2)+32, 8, 35), bytes.Repeat([]byte("n"), 33)...)
	long = append(long, 0)
	for k := 1; k <= 3; k++ {
		long = put(long, symAt(k), 4, uint64(k+1))
	}
	want := changed(func(f *elf.File) {
		for k := range f.Syms {
			f.Syms[k].Name = strings.Repeat("n", 32-k)
		}
	})
	parses(t, "32 bytes", long, want)
	fails(t, "33 bytes", put(long, symAt(2), 4, 1))
	fails(t, "32 bytes without an end", put(long, headAt(2)+32, 8, 34))
}

// extended is the sample with n symbols behind the first entry, or n relocations, at the end.
func extended(section, n int) []byte {
	b := unhex(sampleBytes)
	from, first := symAt(0), 1
	if section == 3 {
		from, first = relAt(0), 0
	}
	out := put(put(b, headAt(section)+24, 8, sampled), headAt(section)+32, 8, uint64(24*(n+first)))
	for k := range n + first {
		entry := from + 24*min(k, first+1)
		out = append(out, b[entry:entry+24]...)
	}
	return out
}

func TestParseMany(t *testing.T) {
	for _, n := range []int{3, 63, 64} {
		syms := changed(func(f *elf.File) {
			for len(f.Syms) < n {
				f.Syms = append(f.Syms, f.Syms[1])
			}
			f.Syms[2] = f.Syms[1]
		})
		parses(t, "symbols", extended(1, n), syms)
		parses(t, "symbols and some bytes", put(append(extended(1, n), make([]byte, 23)...), headAt(1)+32, 8, uint64(24*n+47)), syms)
		parses(t, "relocations", extended(3, n), changed(func(f *elf.File) {
			for len(f.Rels) < n {
				f.Rels = append(f.Rels, f.Rels[1])
			}
		}))
	}
	for _, n := range []int{65, 66, 1000, 40000} {
		fails(t, "symbols", extended(1, n))
		fails(t, "relocations", extended(3, n))
	}
}

func TestParseRelocations(t *testing.T) {
	b := unhex(sampleBytes)
	for _, v := range []uint64{0, 2, 3, 8, 257, 1<<16 + 1, 1<<31 + 1, math.MaxUint32} {
		fails(t, "type", put(b, relAt(1)+8, 4, v))
	}
	for _, v := range []uint64{0, 4, 5, 65, 1 << 31, math.MaxUint32} {
		fails(t, "symbol", put(b, relAt(1)+12, 4, v))
	}
	for k := range 3 {
		parses(t, "symbol", put(b, relAt(1)+12, 4, uint64(k+1)), changed(func(f *elf.File) { f.Rels[1].Sym = k }))
	}
	parses(t, "at", put(b, relAt(0), 8, noNum), changed(func(f *elf.File) { f.Rels[0].At = noNum }))
	parses(t, "add", put(b, relAt(0)+16, 8, farAddr), changed(func(f *elf.File) { f.Rels[0].Add = math.MinInt64 }))
	for _, n := range []uint64{24, 25, 47} {
		parses(t, "one that is not complete", put(b, headAt(3)+32, 8, n), changed(func(f *elf.File) { f.Rels = f.Rels[:1] }))
	}
	for _, n := range []uint64{0, 1, 23} {
		parses(t, "none that is complete", put(b, headAt(3)+32, 8, n), changed(func(f *elf.File) { f.Rels = nil }))
	}
	parses(t, "more than the relocations", put(b, headAt(3)+32, 8, 48+23), sample())
}

// Results share no memory with the bytes, nor with each other.
func TestParseKeepsNothing(t *testing.T) {
	b := put(unhex(sampleBytes), segAt(0)+8, 8, moreAt)
	want := changed(func(f *elf.File) { f.Segs[0].Data = []byte("012") })
	f, _ := elf.Parse(b)
	g, _ := elf.Parse(b)
	clear(b)
	if !equal(f, want) {
		t.Error("the file is changed with the bytes")
	}
	if len(f.Segs) != 3 || len(f.Syms) != 3 || len(f.Rels) != 2 {
		t.FailNow()
	}
	f.Segs[0].Data[1] = 9
	_ = append(f.Segs[0].Data, 'X', 'X', 'X')
	if string(f.Segs[2].Data) != string(want.Segs[2].Data) {
		t.Error("two segments share bytes")
	}
	f.Segs[1].Addr, f.Syms[0].Name, f.Rels[0].At, f.Segs[2].Data[0] = 1, "", 1, 1
	if !equal(g, want) {
		t.Error("two files share something")
	}
}

// P3.5: whatever the bytes are, Parse returns a valid file or ErrElf.
func tame(t *testing.T, b []byte) bool {
	t.Helper()
	f, e := elf.Parse(b)
	switch {
	case e == api.OK && !elf.May(f):
		t.Errorf("%x is parsed as the invalid %+v", b, f)
	case e == api.OK:
		w, e := elf.Write(f)
		if g, e2 := elf.Parse(w); e == api.OK && (e2 != api.OK || !equal(f, g)) {
			t.Errorf("%+v is written and read as %+v", f, g)
		}
		return true
	case e != api.ErrElf || !zero(f):
		t.Errorf("error %d, %+v", e, f)
	}
	return false
}

// dice are numbers without a visible rule, always the same ones.
type dice uint64

func (d *dice) roll(n int) int {
	*d = *d*6364136223846793005 + 1442695040888963407
	return int(uint64(*d)>>33) % n
}

func TestParseAnything(t *testing.T) {
	d := dice(1)
	b := unhex(sampleBytes)
	for range 3000 {
		noise := make([]byte, d.roll(700))
		for k := range noise {
			noise[k] = byte(d.roll(256))
		}
		tame(t, noise)
		copy(noise, b[:64])
		tame(t, noise)
	}
	good := 0
	for range 20000 {
		c := bytes.Clone(b)
		for range 1 + d.roll(4) {
			c[d.roll(len(c))] = byte([]int{0, 1, 2, 3, 4, 16, 127, 128, 255, d.roll(256)}[d.roll(10)])
		}
		if tame(t, c) {
			good++
		}
	}
	if good == 0 {
		t.Error("no changed file is parsed")
	}
}

// free tells of a byte of the sample whether a file's bytes may have any other value there.
func free(at int) bool {
	for _, p := range [][2]int{
		{48, 52}, {62, 64}, // flags, the section names' number
		{dataAt - 8, dataAt}, {dataAt + 3, moreAt}, {moreAt + 17, symsAt}, {namesAt + 13, relsAt}, // between the parts
		{symsAt, symAt(1)}, {namesAt, namesAt + 1}, // the first entry; the empty name that no symbol has
		{titleAt, headsAt}, // the section names
	} {
		if at >= p[0] && at < p[1] {
			return true
		}
	}
	for k := range 3 {
		if o := at - segAt(k); o >= 24 && o < 32 || o >= 48 && o < 56 {
			return true
		}
		if o := at - symAt(k+1); o >= 5 && o < 8 {
			return true
		}
	}
	for k := range 5 {
		o := at - headAt(k)
		if o < 0 || o >= 64 {
			continue
		}
		counted := k > 0 && k < 4 && (o >= 4 && o < 8 || o >= 24 && o < 40) || k == 1 && o >= 40 && o < 44
		return !counted && (o < 4 || o >= 8)
	}
	return false
}

// sameStill tells of a changed byte that is not free whether it is nevertheless none that counts, with the value that it has.
func sameStill(c []byte, at int) bool {
	v := int(c[at])
	switch {
	case at >= symsAt && at < namesAt && (at-symsAt)%24 == 4: // beside a symbol's kind
		return v&15 == int(sampleByte(at))&15
	case at == symAt(2): // other places of the names where a name without bytes is
		return v == 0 || v == 5 || v == 12
	case at >= segAt(1)+8 && at < segAt(1)+16: // where the stack has no data
		return get(c, segAt(1)+8, 8) <= sampled
	case at >= headAt(0)+4 && at < headAt(0)+8, at >= headAt(4)+4 && at < headAt(4)+8: // other types of two sections that no one asks for
		kind := get(c, at/4*4, 4)
		return kind != 2 && kind != 4
	case at == 60: // without the section names
		return v == 4
	case at == headAt(1)+32: // symbols that are not complete
		return v > 96 && v < 120
	case at == headAt(2)+32: // names that no symbol has
		return v > 13
	case at == headAt(2)+33:
		return v == 1
	case at == headAt(3)+32: // relocations that are not complete
		return v > 48 && v < 72
	}
	return false
}

func sampleByte(at int) byte { return unhex(sampleBytes)[at] }

// A changed byte is seen if it is one that counts, and only then.
func TestParseChangedByte(t *testing.T) {
	b := unhex(sampleBytes)
	for at, old := range b {
		for _, v := range []byte{old ^ 1, old ^ 2, old ^ 4, old ^ 8, old ^ 16, old ^ 32, old ^ 64, old ^ 128, old - 1, old + 1, old + 24, 0, 1, 2, 4, 5, 12, 14, 255} {
			// More segment headers are those of the bytes behind, of which some are of other kinds.
			if v == old || at == 56 && v > 3 {
				continue
			}
			c := put(b, at, 1, uint64(v))
			f, e := elf.Parse(c)
			tame(t, c)
			same := e == api.OK && equal(f, sample())
			if want := free(at) || sameStill(c, at); same != want {
				t.Errorf("byte %d set to %#x: same %v, want %v (error %d)", at, v, same, want, e)
			}
		}
	}
}

// P3.3

func TestEnd(t *testing.T) {
	for _, c := range [][3]uint64{{0, 0, 0}, {4096, 3, 4099}, {farAddr, farSize, farAddr + farSize}, {noNum, 1, 0}, {noNum, noNum, noNum - 1}} {
		if got := (elf.Seg{Addr: c[0], Size: c[1], Data: []byte{1, 2}}).End(); got != c[2] {
			t.Errorf("%d + %d: End is %d, want %d", c[0], c[1], got, c[2])
		}
	}
}

func TestHas(t *testing.T) {
	for addr := range uint64(4) {
		for size := range uint64(5) {
			s := elf.Seg{Addr: addr, Size: size, Data: []byte{1}}
			for at := range uint64(12) {
				for n := range uint64(8) {
					want := at >= addr && at+n <= addr+size
					if s.Has(at, n) != want {
						t.Errorf("%d bytes at %d: Has(%d, %d) is %v", size, addr, at, n, !want)
					}
				}
			}
		}
	}
	for _, c := range []struct {
		addr, size, at, n uint64
		want              bool
	}{
		{4096, 16, 4096, 16, true}, {4096, 16, 4096, 17, false}, {4096, 16, 4095, 1, false}, {4096, 16, 4112, 0, true}, {4096, 16, 4113, 0, false},
		{4096, 16, 4104, noNum, false}, {4096, 16, 4104, noNum - 4000, false}, {4096, 16, noNum, 1, false}, {4096, 16, 0, noNum, false},
		{0, noNum, 0, noNum, true}, {0, noNum, noNum, 0, true}, {0, noNum, noNum, 1, false}, {0, noNum, 1, noNum, false},
		{noNum, 1, noNum, 1, true}, {noNum, 1, noNum, 2, false}, {noNum, 1, 0, 0, false}, {noNum, 16, noNum, 16, true}, {noNum - 7, 16, 0, 1, false}, {noNum - 7, 16, 4, 0, false},
		{farAddr, farSize, farAddr + farSize - 1, 1, true}, {farAddr, farSize, farAddr + farSize, 1, false},
	} {
		if got := (elf.Seg{Addr: c.addr, Size: c.size}).Has(c.at, c.n); got != c.want {
			t.Errorf("%d bytes at %d: Has(%d, %d) is %v", c.size, c.addr, c.at, c.n, got)
		}
	}
}

func TestMeets(t *testing.T) {
	common := func(a, n, b, m uint64) bool {
		for x := a; x < a+n; x++ {
			if x >= b && x < b+m {
				return true
			}
		}
		return false
	}
	for a := range uint64(6) {
		for n := range uint64(5) {
			for b := range uint64(6) {
				for m := range uint64(5) {
					want := common(a, n, b, m)
					if got := (elf.Seg{Addr: a, Size: n}).Meets(elf.Seg{Addr: b, Size: m}); got != want {
						t.Errorf("%d at %d, %d at %d: Meets is %v", n, a, m, b, got)
					}
				}
			}
		}
	}
	for _, c := range []struct {
		a, n, b, m uint64
		want       bool
	}{
		{4096, 16, 4112, 16, false}, {4096, 17, 4112, 16, true}, {4096, 16, 4096, 16, true}, {4096, 16, 4100, 1, true},
		{0, noNum, noNum, 1, false}, {0, noNum, noNum - 1, noNum, true}, {0, 0, 0, noNum, false}, {5, 0, 0, noNum, false}, {5, noNum, 5, 0, false},
		// Addresses do not wrap around.
		{noNum, 2, 0, 1, false}, {noNum - 1, noNum, 0, 16, false}, {noNum, noNum, noNum, 1, true}, {1 << 63, noNum, 0, 1 << 63, false}, {1 << 63, noNum, 0, 1<<63 + 1, true},
	} {
		s, u := elf.Seg{Addr: c.a, Size: c.n}, elf.Seg{Kind: elf.Stack, Addr: c.b, Size: c.m}
		if s.Meets(u) != c.want || u.Meets(s) != c.want {
			t.Errorf("%d at %d, %d at %d: Meets is %v, %v", c.n, c.a, c.m, c.b, s.Meets(u), u.Meets(s))
		}
	}
}
