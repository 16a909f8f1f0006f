package link_test

import (
	"math"
	"slices"
	"testing"

	"calque/a64"
	"calque/api"
	"calque/elf"
	"calque/emit"
	"calque/image"
	"calque/lay"
	"calque/link"
	"calque/rope"
)

const reach = 1<<20 - 4

// Lines.
var (
	nop = emit.Line{Inst: a64.Inst{Op: a64.Nop, W: 8}}
	brk = emit.Line{Inst: a64.Inst{Op: a64.Brk, W: 8, Imm: 1}}
	b   = a64.Inst{Op: a64.B, W: 8}
)

// label is the label of a version of a block.
func label(at uint64, ver int) emit.Line { return emit.Line{Label: true, To: at, Ver: ver} }

// to is a line that jumps to a block.
func to(at uint64) emit.Line { return emit.Line{Inst: b, Ref: emit.Block, To: at} }

// program is an image with all that there may be.
func program() image.Image {
	return image.Image{
		Seg:    elf.Seg{Kind: elf.Load, Flags: elf.R | elf.X, Addr: 4096, Size: 5, Data: []byte{1, 2, 3, 4, 0xC3}},
		Data:   []elf.Seg{{Kind: elf.Load, Flags: elf.R, Addr: 8192, Size: 3, Data: []byte{7, 8, 9}}, {Kind: elf.Load, Flags: elf.R | elf.W, Addr: 12288, Size: 100, Data: []byte{5}}, {Kind: elf.Load, Addr: 20000}},
		Stacks: []image.Area{{Lo: 65536, Size: 64, Private: true}, {Lo: 131072, Size: 128}},
		Entry:  4096, Funcs: []uint64{4096}, Taken: []uint64{4097},
	}
}

// lines are those of two blocks, one of which has two versions.
func lines() []emit.Line {
	return []emit.Line{label(4096, 0), {Bound: true, To: 4096}, nop, to(4100), label(4096, 1), nop, to(7), label(4100, 0), {Bound: true, To: 4100}, {Inst: b, Ref: emit.Find}, brk}
}

// The numbers that the document names.
func TestNumbers(t *testing.T) {
	if link.Text != 140737489403904 || link.Table != 140737492549632 || link.Room != 140737496743936 {
		t.Error(link.Text, link.Table, link.Room)
	}
}

// P26.1, example 1.
func TestLimit(t *testing.T) {
	for _, x := range [][2]int{{math.MinInt, 40}, {-1, 40}, {0, 40}, {1, 40}, {2, 54}, {3, 68}, {4, 68}, {5, 82}, {8, 82}, {9, 96}, {4096, 208}, {4097, 222}, {math.MaxInt, 922}} {
		if got := link.Limit(x[0]); got != x[1] {
			t.Error(x, got)
		}
	}
}

// P26.1: the search has from 16 to 25 lines, all of which are valid, without labels and references.
func TestFinder(t *testing.T) {
	none := link.Finder(0)
	for _, n := range []int{math.MinInt, -1, 0, 1, 2, 3, 100, 65535, 65536, 65537, 1 << 32, 1<<48 + 1<<32 + 1<<16 + 1, math.MaxInt - 1, math.MaxInt} {
		l := link.Finder(n)
		if len(l) < 16 || len(l) > 25 || n < 0 && !slices.Equal(l, none) {
			t.Error(n, len(l))
		}
		for _, x := range l {
			if !x.Real() || x.Ref != emit.None || x.To != 0 || x.Ver != 0 || !a64.May(x.Inst) {
				t.Errorf("%+v", x)
			}
		}
		if _, e := lay.Lay(0, 0, 0, reach, l...); e != api.OK {
			t.Error(n, e)
		}
		clear(l)
	}
	if l := link.Finder(0); !slices.Equal(l, none) {
		t.Error("shared")
	}
}

// number is the number of eight bytes.
func number(t *testing.T, data []byte, at int) uint64 {
	t.Helper()
	v, e := rope.New(data).At(at, 8)
	if e != api.OK {
		t.Fatal(e)
	}
	return v
}

// Definitions, P26.2: all parts of the image.
func TestBuild(t *testing.T) {
	m := program()
	set := []uint64{4096, 4100}
	f, laid, e := link.Build(m, set, reach, lines()...)
	if e != api.OK || f.Machine != elf.Arm || f.Entry != link.Text || len(f.Syms)+len(f.Rels) != 0 || len(f.Segs) != 9 {
		t.Fatalf("%d %+v", e, f)
	}
	// The lines are the search, the fault, and those that are given.
	search := link.Finder(2)
	fault := uint64(link.Text + 4*len(search))
	want, e := lay.Lay(link.Text, link.Text, fault, reach, slices.Concat(search, []emit.Line{{Inst: a64.Inst{Op: a64.Brk, W: 8, Imm: api.FaultMem}}}, lines())...)
	if e != api.OK || laid.Base != want.Base || !slices.Equal(laid.Words, want.Words) || !slices.Equal(laid.Labels, want.Labels) || !slices.Equal(laid.Bounds, want.Bounds) {
		t.Fatalf("%d %+v\n%+v", e, laid, want)
	}
	code := rope.New()
	for _, w := range laid.Words {
		code.Num(4, uint64(w))
	}
	first, _ := laid.Find(4096, 0)
	second, _ := laid.Find(4100, 0)
	if first != fault+4 || second != fault+20 {
		t.Error(first, second)
	}
	table := rope.New()
	table.Num(8, 4096, first, 4100, second)
	wanted := elf.File{Machine: elf.Arm, Entry: link.Text, Segs: []elf.Seg{
		{Kind: elf.Load, Flags: 5, Addr: link.Text, Size: uint64(code.Len()), Data: code.Bytes()},
		{Kind: elf.Load, Flags: 4, Addr: link.Table, Size: 32, Data: table.Bytes()},
		{Kind: elf.Load, Flags: 6, Addr: link.Room, Size: 8 * 2048},
		{Kind: elf.Load, Flags: 4, Addr: 4096, Size: 5, Data: []byte{1, 2, 3, 4, 0xC3}},
		m.Data[0], m.Data[1], m.Data[2],
		{Kind: elf.Stack, Flags: 1, Addr: 65536, Size: 64},
		{Kind: elf.Stack, Addr: 131072, Size: 128},
	}}
	if !elf.Same(f, wanted) {
		t.Errorf("%+v\nnot\n%+v", f, wanted)
	}
	bytes, e := elf.Write(f)
	if back, fault := elf.Parse(bytes); e != api.OK || fault != api.OK || !elf.Same(back, f) {
		t.Error("bytes", e, fault)
	}
	for _, s := range f.Segs {
		if s.Flags&elf.X != 0 && s.Flags&elf.W != 0 {
			t.Error("X and W", s)
		}
	}
}

// Example 1.
func TestOne(t *testing.T) {
	f, _, e := link.Build(program(), []uint64{4096}, reach, lines()...)
	if e != api.OK || len(f.Segs[1].Data) != 16 || number(t, f.Segs[1].Data, 0) != 4096 || number(t, f.Segs[1].Data, 8) <= link.Text {
		t.Error(e, f.Segs)
	}
}

// P26.2: nothing but what must be there.
func TestLittle(t *testing.T) {
	f, laid, e := link.Build(image.Image{}, nil, 16)
	if e != api.OK || len(f.Segs) != 4 || len(f.Segs[1].Data) != 0 || f.Segs[1].Size != 0 || len(laid.Words) != len(link.Finder(0))+1 {
		t.Fatal(e, f, laid)
	}
	if s := f.Segs[3]; s.Kind != elf.Load || s.Flags != elf.R || s.Addr != 0 || s.Size != 0 {
		t.Error(s)
	}
	// The program's text is for reading, whatever it was for.
	for flags := range 8 {
		m := image.Image{Seg: elf.Seg{Kind: elf.Stack, Flags: flags, Addr: 64, Size: 9}}
		if f, _, e := link.Build(m, nil, 16); e != api.OK || !elf.Same(elf.File{Segs: f.Segs[3:]}, elf.File{Segs: []elf.Seg{{Kind: elf.Load, Flags: 4, Addr: 64, Size: 9}}}) {
			t.Error(flags, e, f.Segs)
		}
	}
}

// P26.2: reach and find are those of layer 25.
func TestReach(t *testing.T) {
	i := a64.Inst{Op: a64.Cbnz, W: 8, D: 3}
	for _, x := range []struct {
		reach int64
		words int
	}{{16, 2}, {reach, 1}} {
		_, laid, e := link.Build(program(), nil, x.reach, emit.Line{Inst: i, Ref: emit.Find})
		search := len(link.Finder(0))
		off := -4 * int64(search+1)
		want := []a64.Inst{{Op: a64.Cbnz, W: 8, D: 3, Off: off}}
		if x.words == 2 {
			want = []a64.Inst{{Op: a64.Cbz, W: 8, D: 3, Off: 8}, {Op: a64.B, W: 8, Off: off - 4}}
		}
		words, _ := a64.All(want...)
		if e != api.OK || !slices.Equal(laid.Words[search+1:], words) {
			t.Error(x, e, laid.Words)
		}
	}
}

// P26.2: wrong inputs.
func TestWrong(t *testing.T) {
	double := append(lines(), label(4096, 1))
	many := slices.Repeat([]emit.Line{nop}, 1<<18)
	big := program()
	big.Data = append(big.Data, elf.Seg{Kind: elf.Load, Addr: 1 << 20, Size: 1 << 21, Data: make([]byte, 1<<20)})
	odd := program()
	odd.Data[0].Kind = 5
	crowd := program()
	crowd.Stacks = slices.Repeat(crowd.Stacks, 9)
	full := program()
	full.Stacks = slices.Repeat(full.Stacks, 8)[:16]
	full.Data = slices.Repeat(full.Data, 2)[:4]
	far := program()
	far.Addr = 1<<63 + 1
	for _, x := range []struct {
		what  string
		m     image.Image
		set   []uint64
		reach int64
		l     []emit.Line
		want  api.Errno
	}{
		{"fine", program(), []uint64{4096, 4100}, 16, lines(), api.OK},
		{"part of the blocks", program(), []uint64{4100}, 16, lines(), api.OK},
		{"the same one twice", program(), []uint64{4096, 4096}, 16, lines(), api.ErrArg},
		{"falling", program(), []uint64{4100, 4096}, 16, lines(), api.ErrArg},
		{"rising but for the last one", program(), []uint64{4096, 4100, 4100}, 16, lines(), api.ErrArg},
		{"no such block", program(), []uint64{4096, 4097}, 16, lines(), api.ErrArg},
		{"no block at all", program(), []uint64{0}, 16, nil, api.ErrArg},
		{"a bound is no label", program(), []uint64{5}, 16, []emit.Line{{Bound: true, To: 5}}, api.ErrArg},
		{"a reference is no label", program(), []uint64{5}, 16, []emit.Line{to(5)}, api.ErrArg},
		{"version 1 alone", program(), []uint64{5}, 16, []emit.Line{label(5, 1)}, api.ErrArg},
		{"two labels", program(), []uint64{4096}, 16, double, api.ErrForm},
		{"two labels, and a set that falls", program(), []uint64{4100, 4096}, 16, double, api.ErrArg},
		{"reach", program(), []uint64{4096}, 15, lines(), api.ErrArg},
		{"a line that is not valid", program(), nil, 16, []emit.Line{{}}, api.ErrArg},
		{"too many words", program(), nil, 16, many, api.ErrSize},
		{"too many words, and two labels", program(), nil, 16, append(many, double...), api.ErrForm},
		{"more words than a file has", program(), nil, 16, many[:1<<18-40], api.ErrSize},
		{"too much data", big, nil, 16, lines(), api.ErrSize},
		{"data that is not valid", odd, nil, 16, lines(), api.ErrSize},
		{"data that is not valid, and two labels", odd, nil, 16, double, api.ErrForm},
		{"as many segments as may be", full, nil, 16, lines(), api.OK},
		{"too many stacks", crowd, nil, 16, lines(), api.ErrSize},
		{"a text too far up", far, nil, 16, lines(), api.ErrSize},
	} {
		f, laid, e := link.Build(x.m, x.set, x.reach, x.l...)
		if e != x.want {
			t.Errorf("%s: %d", x.what, e)
		}
		if e != api.OK && (!elf.Same(f, elf.File{}) || laid.Base != 0 || len(laid.Words)+len(laid.Labels)+len(laid.Bounds) != 0) {
			t.Errorf("%s: %+v %+v", x.what, f, laid)
		}
	}
}

// P26.2: as great a table, and as great a file, as may be, and the next one.
func TestGreat(t *testing.T) {
	for _, n := range []int{4096, 60000, 65536, 65537} {
		var set []uint64
		var l []emit.Line
		for k := range n {
			set = append(set, uint64(5*k))
			l = append(l, label(uint64(5*k), 0))
		}
		f, _, e := link.Build(program(), set, 16, l...)
		if want := n <= 60000; (e == api.OK) != want || !want && e != api.ErrSize {
			t.Fatal(n, e)
		} else if want && number(t, f.Segs[1].Data, 16*(n-1)) != uint64(5*(n-1)) {
			t.Error(n)
		}
	}
	f, _, _ := link.Build(program(), nil, 16)
	bytes, _ := elf.Write(f)
	room := (api.MaxFile - len(bytes)) / 16 * 4
	for more := range 9 {
		f, _, e := link.Build(program(), nil, 16, slices.Repeat([]emit.Line{nop}, room-4+more)...)
		if e != api.OK {
			if e != api.ErrSize || more < 4 {
				t.Error(more, e)
			}
			continue
		}
		if bytes, e := elf.Write(f); e != api.OK || len(bytes) > api.MaxFile {
			t.Error(more, e, len(bytes))
		}
	}
}

// Rules 4, 5: what is given stays as it is, and what is built is the caller's.
func TestNew(t *testing.T) {
	m, set, l := program(), []uint64{4096, 4100}, lines()
	f, laid, _ := link.Build(m, set, reach, l...)
	if !slices.Equal(set, []uint64{4096, 4100}) || !slices.Equal(l, lines()) || !elf.Same(elf.File{Segs: append(m.Data, m.Seg)}, elf.File{Segs: append(program().Data, program().Seg)}) {
		t.Error("changed")
	}
	want, _ := elf.Write(f)
	words := slices.Clone(laid.Words)
	clear(set)
	clear(l)
	clear(m.Seg.Data)
	for _, s := range m.Data {
		clear(s.Data)
	}
	clear(laid.Words)
	clear(laid.Labels)
	if got, _ := elf.Write(f); !slices.Equal(got, want) {
		t.Error("the file shares memory with something")
	}
	for _, s := range f.Segs {
		clear(s.Data)
	}
	f, laid, _ = link.Build(program(), []uint64{4096, 4100}, reach, lines()...)
	if got, _ := elf.Write(f); !slices.Equal(got, want) || !slices.Equal(laid.Words, words) {
		t.Error("shared from call to call")
	}
}
