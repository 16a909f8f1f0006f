package image_test

import (
	"fmt"
	"math"
	"slices"
	"testing"

	"calque/api"
	"calque/elf"
	"calque/image"
)

const (
	top   = 1<<47 - 1<<20
	most  = 65536
	noNum = math.MaxUint64
	rx    = elf.R | elf.X
	rw    = elf.R | elf.W
)

// Where the parts of the program are.
const (
	textAt  = 0x1000
	fixedAt = 0x2000
	dataAt  = 0x3000
	stackAt = 0x10000
)

func load(flags int, addr, size uint64, data ...byte) elf.Seg {
	return elf.Seg{Kind: elf.Load, Flags: flags, Addr: addr, Size: size, Data: data}
}

func stack(flags int, addr, size uint64) elf.Seg {
	return elf.Seg{Kind: elf.Stack, Flags: flags, Addr: addr, Size: size}
}

func bytesOf(n int) []byte {
	b := make([]byte, n)
	for k := range b {
		b[k] = byte(k%255 + 1)
	}
	return b
}

// number are the eight bytes of a number.
func number(v uint64) []byte {
	var b []byte
	for k := range 8 {
		b = append(b, byte(v>>(8*k)))
	}
	return b
}

// program is a file with an image: the number of segments are text 0, data 1, fixed data 2, stack 3.
func program() elf.File {
	fixed := slices.Concat([]byte{9}, number(textAt+4), number(textAt), []byte{8})
	return elf.File{
		Machine: elf.X86,
		Entry:   textAt + 2,
		Segs: []elf.Seg{
			load(rx, textAt, 16, bytesOf(16)...),
			load(rw, dataAt, 64, slices.Concat(number(textAt+15), []byte{7, 6, 5, 4})...),
			load(elf.R, fixedAt, 32, fixed...),
			stack(rw|elf.X, stackAt, 64),
		},
		Syms: []elf.Sym{
			{Name: "main", Kind: elf.Func, Addr: textAt + 8, Size: 1},
			{Name: "start", Kind: elf.Func, Addr: textAt},
			{Name: "data", Kind: 1, Addr: dataAt},
		},
		Rels: []elf.Rel{
			{At: dataAt, Sym: 0, Add: 7},
			{At: fixedAt + 1, Sym: 2, Add: textAt + 4 - dataAt},
			{At: fixedAt + 9, Sym: 1, Add: 0},
		},
	}
}

// change is a change of a file.
type change func(f *elf.File)

// with is the program, changed.
func with(l ...change) elf.File {
	f := program()
	for _, c := range l {
		c(&f)
	}
	return f
}

// more adds segments.
func more(l ...elf.Seg) change {
	return func(f *elf.File) { f.Segs = append(f.Segs, l...) }
}

// seg replaces a segment.
func seg(k int, s elf.Seg) change {
	return func(f *elf.File) { f.Segs[k] = s }
}

// bare takes the symbols and the relocations away.
func bare(f *elf.File) { f.Syms, f.Rels = nil, nil }

func entry(at uint64) change {
	return func(f *elf.File) { f.Entry = at }
}

func show(m image.Image) string {
	s := fmt.Sprintf("%+v", m)
	return s[:min(len(s), 500)]
}

func sameSeg(s, u elf.Seg) bool {
	return s.Kind == u.Kind && s.Flags == u.Flags && s.Addr == u.Addr && s.Size == u.Size && slices.Equal(s.Data, u.Data)
}

func same(m, n image.Image) bool {
	return sameSeg(m.Seg, n.Seg) && slices.EqualFunc(m.Data, n.Data, sameSeg) && slices.Equal(m.Stacks, n.Stacks) &&
		m.Entry == n.Entry && slices.Equal(m.Funcs, n.Funcs) && slices.Equal(m.Taken, n.Taken)
}

// gives asks for an error, or for OK, of Of and of Load.
func gives(t *testing.T, what string, f elf.File, want api.Errno) image.Image {
	t.Helper()
	m, e := image.Of(f)
	if e != want {
		t.Errorf("%s: error %d, want %d", what, e, want)
	}
	if e != api.OK && !same(m, image.Image{}) {
		t.Errorf("%s: beside error %d: %s", what, e, show(m))
	}
	if b, e := elf.Write(f); e == api.OK {
		if n, e := image.Load(b); e != want || !same(m, n) {
			t.Errorf("%s: Load: error %d, want %d; %s", what, e, want, show(n))
		}
	}
	return m
}

// is asks for an image.
func is(t *testing.T, what string, f elf.File, want image.Image) {
	t.Helper()
	if m := gives(t, what, f, api.OK); !same(m, want) {
		t.Errorf("%s: %s, want %s", what, show(m), show(want))
	}
}

// The image of the program.
func picture() image.Image {
	f := program()
	return image.Image{
		Seg:    f.Segs[0],
		Data:   []elf.Seg{f.Segs[2], f.Segs[1]},
		Stacks: []image.Area{{Lo: stackAt, Size: 64, Private: true}},
		Entry:  textAt + 2,
		Funcs:  []uint64{textAt, textAt + 8},
		Taken:  []uint64{textAt, textAt + 4, textAt + 15},
	}
}

// P4.1: the image

func TestOf(t *testing.T) {
	is(t, "program", program(), picture())
	if image.Guard != 4096 {
		t.Error("Guard is", image.Guard)
	}
}

// Example 1 of the chapter.
func TestOfExample(t *testing.T) {
	f := elf.File{Machine: elf.X86, Entry: 4096, Segs: []elf.Seg{load(rx, 4096, 1, 0xC3), stack(rx, 65536, 64)}}
	m := gives(t, "example", f, api.OK)
	b, ok := m.Byte(4096)
	if !slices.Equal(m.Roots(), []uint64{4096}) || b != 195 || !ok || m.Text(4097) || !m.Text(4096) {
		t.Error(m.Roots(), b, ok, m.Text(4097))
	}
	if len(m.Stacks) != 1 || !m.Stacks[0].Private || m.Stacks[0].Top() != 65600 {
		t.Error(m.Stacks)
	}
}

func TestOfOrder(t *testing.T) {
	l := []elf.Seg{load(rw, 0x9000, 16), load(0, 0x8000, 0), load(rw, 0x8000, 16, 1), load(elf.R, 0x8000, 0), load(elf.W, 0, 1)}
	want := picture()
	want.Data = []elf.Seg{l[4], want.Data[0], want.Data[1], l[1], l[2], l[3], l[0]}
	is(t, "data", with(more(l...)), want)
	stacks := []elf.Seg{stack(0, 0x30000, 128), stack(elf.X, 0x20000, 64), stack(rw, 0x40000, 16*5), stack(7, 0x18000, 64)}
	want = picture()
	want.Stacks = append(want.Stacks, image.Area{Lo: 0x30000, Size: 128}, image.Area{Lo: 0x20000, Size: 64, Private: true}, image.Area{Lo: 0x40000, Size: 80}, image.Area{Lo: 0x18000, Size: 64, Private: true})
	is(t, "stacks", with(more(stacks...)), want)
	// A stack is first, and the text is last.
	f := program()
	slices.Reverse(f.Segs)
	is(t, "backwards", f, picture())
}

// Functions are in the text, rising, each once.
func TestOfFuncs(t *testing.T) {
	var l []elf.Sym
	for _, at := range []uint64{textAt + 15, textAt + 16, textAt + 3, textAt - 1, textAt, textAt + 3, dataAt, stackAt, 0, noNum, textAt + 15, textAt + 1} {
		l = append(l, elf.Sym{Kind: elf.Func, Addr: at, Size: noNum})
	}
	for k := range 2 {
		l = append(l, elf.Sym{Kind: k, Addr: textAt + 9})
	}
	want := picture()
	want.Funcs, want.Taken = []uint64{textAt, textAt + 1, textAt + 3, textAt + 15}, nil
	is(t, "functions", with(bare, func(f *elf.File) { f.Syms = l }), want)
	want.Funcs = nil
	is(t, "none", with(bare), want)
}

// Targets are in the text, rising, each once; what they are of does not matter.
func TestOfTaken(t *testing.T) {
	f := with(bare)
	f.Syms = []elf.Sym{{Addr: textAt}, {Kind: 1, Addr: noNum}, {Addr: 0, Size: 1}}
	var data []byte
	for k, to := range []uint64{textAt + 15, textAt + 16, textAt + 3, textAt - 1, textAt, textAt + 3, dataAt, stackAt, 0, noNum, textAt + 15, textAt + 1} {
		data = append(data, number(to)...)
		f.Rels = append(f.Rels, elf.Rel{At: dataAt + uint64(8*k), Sym: k % 3, Add: int64(to - f.Syms[k%3].Addr)})
	}
	f.Segs[1] = load(rw, dataAt, uint64(len(data)), data...)
	want := picture()
	want.Data[1] = f.Segs[1]
	want.Funcs, want.Taken = nil, []uint64{textAt, textAt + 1, textAt + 3, textAt + 15}
	is(t, "targets", f, want)
	if got := gives(t, "targets", f, api.OK).Roots(); !slices.Equal(got, []uint64{textAt, textAt + 1, textAt + 2, textAt + 3, textAt + 15}) {
		t.Error("roots", got)
	}
}

// P4.5: the order of symbols and relocations

func TestOfOtherOrder(t *testing.T) {
	orders := [][]int{{0, 1, 2}, {0, 2, 1}, {1, 0, 2}, {1, 2, 0}, {2, 0, 1}, {2, 1, 0}}
	for _, o := range orders {
		for _, p := range orders {
			f, g := program(), program()
			for k := range 3 {
				f.Syms[o[k]] = g.Syms[k]
				f.Rels[p[k]] = g.Rels[k]
				f.Rels[p[k]].Sym = o[g.Rels[k].Sym]
			}
			is(t, "another order", f, picture())
		}
	}
}

// P4.1: the errors. Each list are changes with one error, and the lists are in the order of the errors.

// notElf are files that are not valid or for another machine.
func notElf() []change {
	return []change{
		func(f *elf.File) { f.Machine = elf.Arm },
		func(f *elf.File) { f.Machine = 0 },
		func(f *elf.File) { f.Machine = elf.X86 + 1<<16 },
		func(f *elf.File) { f.Syms = slices.Repeat(f.Syms, 22) },
		func(f *elf.File) { f.Rels = slices.Repeat(f.Rels, 22) },
		func(f *elf.File) { f.Rels = append(f.Rels, elf.Rel{At: dataAt, Sym: len(f.Syms)}) },
		func(f *elf.File) { f.Rels = append(f.Rels, elf.Rel{At: dataAt, Sym: -1}) },
		func(f *elf.File) { f.Syms = append(f.Syms, elf.Sym{Kind: 3}) },
		func(f *elf.File) { f.Syms = append(f.Syms, elf.Sym{Name: "a\x00"}) },
		func(f *elf.File) { f.Segs = append(f.Segs, elf.Seg{Kind: 2, Flags: rx}) },
		func(f *elf.File) { f.Segs = append(f.Segs, load(8, 0, 0)) },
		func(f *elf.File) { f.Segs = append(f.Segs, load(rw, 0, 0, 1)) },
		func(f *elf.File) { f.Segs = append(f.Segs, load(rw, 1<<63+1, 0)) },
		func(f *elf.File) { f.Segs = append(f.Segs, load(rw, 0, 1<<32+1)) },
		func(f *elf.File) {
			f.Segs = append(f.Segs, elf.Seg{Kind: elf.Stack, Addr: 0x50000, Size: 64, Data: []byte{0}})
		},
		func(f *elf.File) {
			for len(f.Segs) < 25 {
				f.Segs = append(f.Segs, load(rw, 0, 0))
			}
		},
	}
}

// noStack takes the stacks away.
func noStack(f *elf.File) {
	f.Segs = slices.DeleteFunc(f.Segs, func(s elf.Seg) bool { return s.Kind == elf.Stack })
}

// stacks are n stacks that may be.
func stacks(n int) []elf.Seg {
	var out []elf.Seg
	for k := range n {
		out = append(out, stack(0, 0x1000000+uint64(k)*0x10000, 64))
	}
	return out
}

func tooLarge() []change {
	return []change{
		more(slices.Repeat([]elf.Seg{load(0, 0, 0)}, 6)...),
		more(stacks(8)...),
		noStack,
		more(load(rw, top-15, 16)),
		more(load(rw, top+1, 0)),
		more(load(rw, 1<<63, 0)),
		more(load(rw, 1<<63, 1<<32)),
		more(stack(rw, top-48, 64)),
		more(stack(rw, 1<<63, 64)),
		more(stack(rw, 0x100000, most+16)),
		more(stack(rw, 0x100000, 1<<32)),
		more(load(rw, 0x100000, most+1)),
		more(load(rw, 0x100000, most)),
		more(load(rw, 0x100000, most/2), load(rw, 0x200000, most/2)),
	}
}

func badText() []change {
	return []change{
		func(f *elf.File) { f.Segs[0].Flags = elf.R },
		func(f *elf.File) { f.Segs[0].Flags = 0 },
		func(f *elf.File) { f.Segs[0].Flags = elf.X },
		func(f *elf.File) { f.Segs[0].Flags = elf.X | elf.W },
		func(f *elf.File) { f.Segs[0].Flags = rx | elf.W },
		more(load(rx, 0x8000, 1, 0xC3)),
		more(load(elf.X, 0x8000, 0)),
		func(f *elf.File) { f.Segs[0].Size++ },
		func(f *elf.File) { f.Segs[0].Data = f.Segs[0].Data[:15] },
		func(f *elf.File) { f.Segs[0].Data = nil },
		func(f *elf.File) { f.Segs[0].Data, f.Segs[0].Size = nil, 0 },
		seg(0, load(rx, 0x8000, 4097, bytesOf(4097)...)),
		more(load(rw, textAt+15, 1)), more(load(rw, textAt-15, 16)), more(load(rw, textAt, 16)), more(load(rw, textAt+3, 1)), more(load(rw, textAt-1, 18)),
		more(load(rw, dataAt+63, 1)), more(load(rw, dataAt-1, 2)), more(load(rw, dataAt+20, 4)), more(load(rw, 0x8000, 2), load(rw, 0x8001, 2)),
	}
}

func badStack() []change {
	return []change{
		seg(3, stack(rw, stackAt+8, 64)), seg(3, stack(rw, stackAt+1, 64)), seg(3, stack(rw, stackAt-1, 64)),
		seg(3, stack(rw, stackAt, 72)), seg(3, stack(rw, stackAt, 65)), seg(3, stack(rw, stackAt, 79)),
		seg(3, stack(rw, stackAt, 48)), seg(3, stack(rw, stackAt, 0)), seg(3, stack(elf.X, stackAt, 63)),
		more(stack(rw, 0x20000, 48)), more(stack(rw, 0x20000, 0)), more(stack(rw, 0x20004, 64)),
		// Less than Guard bytes below or above, or none.
		more(load(rw, stackAt-4096, 1)), more(load(rw, stackAt-4097, 2)), more(load(rw, stackAt+64+4095, 1)), more(load(elf.R, stackAt-0x2000, 0x2000)),
		more(load(rw, stackAt, 64)), more(load(rw, stackAt+63, 8)), more(load(rw, stackAt+8, 1)), more(load(rw, stackAt-0x2000, 0x8000)),
		more(stack(rw, stackAt+64+4080, 64)), more(stack(rw, stackAt-64-4080, 64)), more(stack(rw, stackAt, 64)), more(stack(rx, stackAt+32, 64)),
		more(stack(rw, textAt+16, 64)), more(stack(rw, 0, 64)), more(stack(rw, textAt-64, 64)), more(stack(rw, dataAt+16, 64)),
		// Only the one of two stacks is near to something.
		more(stack(rw, 0x20000, 64), load(rw, 0x20000-1, 1)), more(load(rw, 0x20040, 1), stack(rw, 0x20000, 64)),
	}
}

func badEntry() []change {
	return []change{entry(textAt - 1), entry(textAt + 16), entry(0), entry(noNum), entry(dataAt), entry(fixedAt), entry(stackAt), entry(1 << 63), entry(textAt + 1<<32)}
}

// rel adds a relocation of the symbol main.
func rel(at uint64, add int64) change {
	return func(f *elf.File) { f.Rels = append(f.Rels, elf.Rel{At: at, Add: add}) }
}

// nought is the Add with which the target is 0.
const nought = -(textAt + 8)

func badRel() []change {
	return []change{
		func(f *elf.File) { f.Rels[0].Add++ },
		func(f *elf.File) { f.Rels[1].Sym = 0 },
		func(f *elf.File) { f.Rels[2].At++ },
		func(f *elf.File) { f.Syms[1].Addr++ },
		func(f *elf.File) { f.Segs[1].Data[7] = 1 },
		func(f *elf.File) { f.Segs[2].Data[1]++ },
		rel(dataAt, 0), rel(dataAt+1, 7),
		// Beyond Data there are noughts, but no place for a target.
		rel(dataAt+16, nought), rel(dataAt+56, nought), rel(dataAt+12, nought), rel(dataAt+57, nought), rel(dataAt+64, nought), rel(dataAt-1, 7), rel(dataAt-8, nought),
		rel(dataAt+5, 0), rel(fixedAt+11, 0), rel(textAt, 0), rel(stackAt, nought), rel(0, nought), rel(noNum, nought), rel(noNum-7, nought), rel(1<<63, nought),
		rel(dataAt+1<<32, 7),
		func(f *elf.File) { f.Rels[0].Add, f.Rels[0].At = 7, textAt },
	}
}

// Data of two segments that touch, a target over both, and one in the text.
func splitRel(f *elf.File) {
	word := number(textAt + 8)
	f.Segs = append(f.Segs, load(rw, 0x6000, 4, word[:4]...), load(rw, 0x6004, 4, word[4:]...))
	rel(0x6000, 0)(f)
}

func textRel(f *elf.File) {
	copy(f.Segs[0].Data[3:], number(textAt+8))
	rel(textAt+3, 0)(f)
}

func TestOfErrors(t *testing.T) {
	lists := []struct {
		what string
		e    api.Errno
		l    []change
	}{
		{"no file for X86", api.ErrElf, notElf()}, {"size", api.ErrSize, tooLarge()}, {"text", api.ErrText, badText()}, {"stack", api.ErrStack, badStack()},
		{"entry", api.ErrRange, badEntry()}, {"relocation", api.ErrElf, append(badRel(), splitRel, textRel)},
	}
	for i, a := range lists {
		for k, c := range a.l {
			gives(t, fmt.Sprint(a.what, " ", k), with(c), a.e)
		}
		// The first of two errors is returned. The changes of segments in their places come first, so that those behind them are still there.
		for _, b := range lists[i+1:] {
			for k, c := range a.l {
				for n, d := range b.l {
					f := with(d, c)
					if a.e == api.ErrSize && k == 2 && b.e == api.ErrStack {
						continue // no stack, and a stack that may not be
					}
					if _, e := image.Of(f); e != a.e {
						t.Errorf("%s %d and %s %d: error %d, want %d", a.what, k, b.what, n, e, a.e)
					}
				}
			}
		}
	}
	gives(t, "one byte too many in all", with(more(load(rw, 0x100000, most-112+1))), api.ErrSize)
	gives(t, "nothing", elf.File{}, api.ErrElf)
	gives(t, "nothing for X86", elf.File{Machine: elf.X86}, api.ErrSize)
	gives(t, "only a stack", elf.File{Machine: elf.X86, Segs: []elf.Seg{stack(0, 0, 64)}}, api.ErrText)
	gives(t, "only a private stack", elf.File{Machine: elf.X86, Segs: []elf.Seg{stack(rx, 0, 64)}}, api.ErrText)
	gives(t, "only a text", elf.File{Machine: elf.X86, Segs: []elf.Seg{load(rx, 0, 1, 1)}}, api.ErrSize)
}

// What is just still right.
func TestOfLimits(t *testing.T) {
	for k, l := range [][]change{
		{more(slices.Repeat([]elf.Seg{load(0, 0, 0)}, 5)...)},
		{more(stacks(7)...)},
		{more(slices.Repeat([]elf.Seg{load(0, 0, 0)}, 5)...), more(stacks(7)...)},
		{more(load(rw, top-16, 16))},
		{more(load(rw, top, 0))},
		{more(stack(rw, top-64, 64))},
		{more(stack(rw, 0x100000, most))},
		{more(load(rw, 0x100000, most-112))},
		{more(load(rw, 0x100000, most/2-112), load(rw, 0x200000, most/2))},
		{more(stacks(7)...), func(f *elf.File) {
			for k := range f.Segs {
				if f.Segs[k].Kind == elf.Stack && k > 3 {
					f.Segs[k].Size = 0xF000 - 16
				}
			}
		}},
		{seg(0, load(rx, 0x8000, 4096, bytesOf(4096)...)), bare, entry(0x8000)},
		{seg(0, load(rx, 0x8000, 4096, bytesOf(4096)...)), bare, entry(0x8FFF)},
		{seg(0, load(rx, textAt, 1, 0xC3)), bare, entry(textAt)},
		{seg(0, load(rx, top-1, 1, 0xC3)), bare, entry(top - 1)},
		{seg(0, load(rx, 0, 1, 0xC3)), bare, entry(0)},
		{entry(textAt)}, {entry(textAt + 15)},
		{more(load(rw, textAt+16, 1), load(rw, textAt-16, 16))},
		{more(load(rw, dataAt+64, 1), load(0, dataAt-1, 1))},
		// Segments without bytes overlap nothing.
		{more(load(rw, textAt+3, 0), load(rw, dataAt+3, 0), load(rw, dataAt+3, 0), load(rw, stackAt+32, 0), load(rw, stackAt-1, 0))},
		{more(load(rw, stackAt-4097, 1))}, {more(load(rw, stackAt-4096-16, 16), load(rw, stackAt+64+4096, 1))},
		{more(stack(rw, stackAt+64+4096, 64))}, {more(stack(rw, stackAt-64-4096, 64))},
		// Near the first address, there are fewer bytes before a stack.
		{func(f *elf.File) { f.Segs = []elf.Seg{load(rx, 4160, 1, 1), stack(0, 0, 64)} }, bare, entry(4160)},
		{func(f *elf.File) { f.Segs = []elf.Seg{load(rx, 4176, 1, 1), stack(0, 16, 64)} }, bare, entry(4176)},
		{func(f *elf.File) { f.Segs = []elf.Seg{load(rx, 0, 16, bytesOf(16)...), stack(0, 4112, 64)} }, bare, entry(0)},
		{rel(dataAt, 7)},
		{seg(1, load(0, dataAt, 64, number(textAt+15)...))},
		{seg(1, load(elf.W, dataAt, 8, number(textAt+15)...))},
		// The sum is modulo 2^64.
		{func(f *elf.File) { f.Syms[2].Addr, f.Rels[1].Add = noNum, textAt+5 }},
		{func(f *elf.File) { f.Syms[2].Addr, f.Rels[1].Add = 1<<63, math.MinInt64+textAt+4 }},
		{func(f *elf.File) { f.Segs[1].Data = number(noNum) }, func(f *elf.File) { f.Rels[0].Add = nought - 1 }},
		{func(f *elf.File) { f.Segs[1].Data = number(0) }, func(f *elf.File) { f.Rels[0].Add = nought }},
	} {
		gives(t, fmt.Sprint("limit ", k), with(l...), api.OK)
	}
	// One less or one more byte is not right.
	for k, l := range [][]change{
		{func(f *elf.File) { f.Segs = []elf.Seg{load(rx, 4159, 1, 1), stack(0, 0, 64)} }, bare, entry(4159)},
		{func(f *elf.File) { f.Segs = []elf.Seg{load(rx, 4175, 1, 1), stack(0, 16, 64)} }, bare, entry(4175)},
		{func(f *elf.File) { f.Segs = []elf.Seg{load(rx, 0, 17, bytesOf(17)...), stack(0, 4112, 64)} }, bare, entry(0)},
		{func(f *elf.File) { f.Segs = []elf.Seg{load(rx, 0, 1, 1), stack(0, 16, 64)} }, bare, entry(0)},
	} {
		gives(t, fmt.Sprint("beyond limit ", k), with(l...), api.ErrStack)
	}
}

// P4.2

func TestLoad(t *testing.T) {
	b, e := elf.Write(program())
	if e != api.OK {
		t.Fatal("Write: error", e)
	}
	if m, e := image.Load(b); e != api.OK || !same(m, picture()) {
		t.Error("error", e, show(m))
	}
	for _, n := range [][]byte{nil, {}, {0x7F}, b[:len(b)-1], make([]byte, 464), append([]byte{0}, b...), append(slices.Clone(b), make([]byte, 1<<20)...)} {
		if m, e := image.Load(n); e != api.ErrElf || !same(m, image.Image{}) {
			t.Error(len(n), "bytes: error", e, show(m))
		}
	}
	for k := range b {
		c := slices.Clone(b)
		c[k] ^= 1 << (k % 8)
		f, e := elf.Parse(c)
		m, e2 := image.Of(f)
		if e != api.OK {
			m, e2 = image.Image{}, api.ErrElf
		}
		if n, e3 := image.Load(c); e2 != e3 || !same(m, n) {
			t.Errorf("byte %d changed: error %d, want %d; %s, want %s", k, e3, e2, show(n), show(m))
		}
	}
}

// Results share no memory with the file, the bytes or each other.

func TestKeepsNothing(t *testing.T) {
	f := program()
	m, _ := image.Of(f)
	n, _ := image.Of(f)
	if !same(m, picture()) {
		t.Fatal(show(m))
	}
	if again, _ := image.Of(program()); !elf.Same(f, program()) || !same(again, n) {
		t.Error("Of changes the file")
	}
	for k := range f.Segs {
		clear(f.Segs[k].Data)
	}
	clear(f.Segs)
	clear(f.Syms)
	clear(f.Rels)
	if !same(m, picture()) {
		t.Error("the image changes with the file:", show(m))
	}
	m.Seg.Data[0], m.Data[0].Data[0], m.Data[1].Addr, m.Stacks[0].Lo, m.Funcs[0], m.Taken[0] = 99, 99, 99, 99, 99, 99
	if !same(n, picture()) {
		t.Error("two images share something:", show(n))
	}
	if again, _ := image.Of(program()); !same(again, picture()) {
		t.Error("another result after the first was written to:", show(again))
	}
	g := program()
	room := make([]byte, 16, 32)
	g.Segs[0].Data = room
	m, _ = image.Of(g)
	m.Seg.Data[1] = 5
	_ = append(m.Seg.Data, 7)
	if room[1] != 0 || room[:32][16] != 0 {
		t.Error("what is written into the image is seen in the file")
	}
}

func TestLoadKeepsNothing(t *testing.T) {
	b, _ := elf.Write(program())
	keep := slices.Clone(b)
	m, _ := image.Load(b)
	if !slices.Equal(b, keep) {
		t.Error("Load changes the bytes")
	}
	clear(b)
	if !same(m, picture()) {
		t.Error("the image changes with the bytes:", show(m))
	}
}

func TestRootsKeepNothing(t *testing.T) {
	m := picture()
	m.Funcs = append(make([]uint64, 0, 16), 9, 5, 9)
	m.Taken = append(make([]uint64, 0, 16), 4, 3)
	for range 2 {
		l := m.Roots()
		if !slices.Equal(l, []uint64{3, 4, 5, 9, textAt + 2}) {
			t.Fatal("roots", l)
		}
		for k := range l {
			l[k] = 77
		}
		_ = append(l, 8)
	}
	if !slices.Equal(m.Funcs, []uint64{9, 5, 9}) || !slices.Equal(m.Taken, []uint64{4, 3}) || m.Funcs[:4][3] != 0 || m.Taken[:3][2] != 0 {
		t.Error("Roots changes the image:", m.Funcs, m.Taken)
	}
}

// P4.3

func TestText(t *testing.T) {
	m := picture()
	for at := uint64(textAt - 20); at < textAt+40; at++ {
		if m.Text(at) != (at >= textAt && at < textAt+16) {
			t.Errorf("Text(%#x) is %v", at, m.Text(at))
		}
	}
	for _, at := range []uint64{0, dataAt, fixedAt, stackAt, noNum, textAt + 1<<32, textAt + 1<<63} {
		if m.Text(at) {
			t.Errorf("Text(%#x)", at)
		}
	}
	far := image.Image{Seg: elf.Seg{Addr: noNum - 3, Size: 16}}
	if !far.Text(noNum) || far.Text(0) || far.Text(noNum-4) || (image.Image{}).Text(0) {
		t.Error("the last address, or none")
	}
}

func TestByte(t *testing.T) {
	m := picture()
	for _, s := range append([]elf.Seg{m.Seg}, m.Data...) {
		for k := range s.Size {
			want := byte(0)
			if k < uint64(len(s.Data)) {
				want = s.Data[k]
			}
			if b, ok := m.Byte(s.Addr + k); b != want || !ok {
				t.Errorf("Byte(%#x) is %d, %v, want %d", s.Addr+k, b, ok, want)
			}
		}
		for _, at := range []uint64{s.Addr - 1, s.Addr + s.Size, s.Addr + 1<<32, s.Addr | 1<<63} {
			if b, ok := m.Byte(at); b != 0 || ok {
				t.Errorf("Byte(%#x) is %d, %v", at, b, ok)
			}
		}
	}
	for _, at := range []uint64{0, stackAt, stackAt + 63, noNum} {
		if b, ok := m.Byte(at); b != 0 || ok {
			t.Errorf("Byte(%#x) is %d, %v", at, b, ok)
		}
	}
}

// Images that Of does not return: nothing panics, and what is behind the last address is not there.
func TestByteOfAnyImage(t *testing.T) {
	for _, m := range []image.Image{
		{Seg: elf.Seg{Addr: noNum - 1, Size: 16, Data: []byte{3, 4, 5}}},
		{Data: []elf.Seg{{Addr: 0, Size: 0, Data: []byte{9}}, {Addr: noNum - 1, Size: 2, Data: []byte{3, 4, 5}}}},
	} {
		for k, want := range []byte{3, 4} {
			if b, ok := m.Byte(noNum - 1 + uint64(k)); b != want || !ok {
				t.Error("far:", b, ok, want)
			}
		}
		for _, at := range []uint64{0, 1, noNum - 2} {
			if b, ok := m.Byte(at); b != 0 || ok {
				t.Error("nowhere:", at, b, ok)
			}
		}
	}
	m := image.Image{Stacks: []image.Area{{Size: noNum}}}
	if b, ok := m.Byte(0); b != 0 || ok {
		t.Error("in a stack:", b, ok)
	}
	if v, ok := m.Fixed(0); v != 0 || ok {
		t.Error("in a stack:", v, ok)
	}
}

func TestFixed(t *testing.T) {
	m := gives(t, "program", program(), api.OK)
	for at := uint64(fixedAt - 10); at < fixedAt+40; at++ {
		want := uint64(0)
		in := at >= fixedAt && at+8 <= fixedAt+32
		for k := range uint64(8) {
			if b, ok := m.Byte(at + k); ok && in {
				want |= uint64(b) << (8 * k)
			}
		}
		if v, ok := m.Fixed(at); v != want || ok != in {
			t.Errorf("Fixed(%#x) is %#x, %v, want %#x, %v", at, v, ok, want, in)
		}
	}
	if v, ok := m.Fixed(fixedAt + 1); v != textAt+4 || !ok {
		t.Error(v, ok)
	}
	// Behind Data, eight noughts are as fixed as other numbers.
	if v, ok := m.Fixed(fixedAt + 24); v != 0 || !ok {
		t.Error(v, ok)
	}
	for _, at := range []uint64{dataAt, dataAt + 16, textAt, textAt + 8, stackAt, 0, noNum, noNum - 7, fixedAt + 1<<32, fixedAt + 1<<63} {
		if v, ok := m.Fixed(at); v != 0 || ok {
			t.Errorf("Fixed(%#x) is %#x, %v", at, v, ok)
		}
	}
	for fl := range 8 {
		m.Data[0].Flags = fl
		if v, ok := m.Fixed(fixedAt + 9); ok != (fl&elf.W == 0) || ok && v != textAt || !ok && v != 0 {
			t.Errorf("flags %d: %#x, %v", fl, v, ok)
		}
	}
}

// The eight bytes are of one segment, though another one touches it.
func TestFixedOfOne(t *testing.T) {
	m := image.Image{Data: []elf.Seg{
		{Addr: 8, Size: 8, Flags: elf.R, Data: bytesOf(8)}, {Addr: 16, Size: 8, Data: bytesOf(3)}, {Addr: 24, Size: 7}, {Addr: 31, Size: 1}, {Addr: noNum - 7, Size: 9, Data: bytesOf(9)},
	}}
	for at := range uint64(40) {
		want := map[uint64]uint64{8: 0x0807060504030201, 16: 0x030201}
		v, ok := m.Fixed(at)
		if w, fixed := want[at]; v != w || ok != fixed {
			t.Errorf("Fixed(%d) is %#x, %v", at, v, ok)
		}
	}
	if v, ok := m.Fixed(noNum - 7); v != 0x0807060504030201 || !ok {
		t.Error("far", v, ok)
	}
	if v, ok := m.Fixed(noNum - 6); v != 0x0908070605040302 || !ok {
		t.Error("counted from Addr", v, ok)
	}
	if v, ok := m.Fixed(noNum - 5); v != 0 || ok {
		t.Error("beyond", v, ok)
	}
}

func TestRoots(t *testing.T) {
	for _, c := range []struct {
		m    image.Image
		want []uint64
	}{
		{image.Image{}, []uint64{0}},
		{picture(), []uint64{textAt, textAt + 2, textAt + 4, textAt + 8, textAt + 15}},
		{image.Image{Entry: 5, Funcs: []uint64{5}, Taken: []uint64{5}}, []uint64{5}},
		{image.Image{Entry: 5, Funcs: []uint64{4, 6}}, []uint64{4, 5, 6}},
		{image.Image{Entry: noNum, Taken: []uint64{0, 7, 7}, Funcs: []uint64{7, 1 << 63}}, []uint64{0, 7, 1 << 63, noNum}},
	} {
		if got := c.m.Roots(); !slices.Equal(got, c.want) {
			t.Errorf("roots %d, want %d", got, c.want)
		}
	}
}

func TestTop(t *testing.T) {
	for _, c := range [][3]uint64{{0, 0, 0}, {65536, 64, 65600}, {noNum, 1, 0}, {noNum, noNum, noNum - 1}, {1 << 63, 1 << 63, 0}} {
		for _, private := range []bool{false, true} {
			if got := (image.Area{Lo: c[0], Size: c[1], Private: private}).Top(); got != c[2] {
				t.Errorf("%d + %d: Top is %d", c[0], c[1], got)
			}
		}
	}
}

// P4.4: what an image is, whatever the file was

// dice are numbers without a visible rule, always the same ones.
type dice uint64

func (d *dice) roll(n int) int {
	*d = *d*6364136223846793005 + 1442695040888963407
	return int(uint64(*d)>>33) % n
}

// throw is some file that may have an image.
func (d *dice) throw() elf.File {
	f := elf.File{Machine: elf.X86}
	for range 2 + d.roll(4) {
		at, n := uint64(d.roll(80))*512, d.roll(3)*256+d.roll(3)
		switch d.roll(3) {
		case 0:
			f.Segs = append(f.Segs, stack(d.roll(8), at, uint64(64+d.roll(4)*16)))
		case 1:
			f.Segs = append(f.Segs, load(d.roll(4)*2, at, uint64(n+d.roll(600)), bytesOf(n)...))
		default:
			f.Segs = append(f.Segs, load(rx, at, uint64(n), bytesOf(n)...))
			f.Entry = at
		}
	}
	return f
}

// near reports whether a segment has a byte of a stack, or of the 4096 bytes around it.
func near(s, stack elf.Seg) bool {
	for at := stack.Addr - min(stack.Addr, 4096); at < stack.End()+4096; at++ {
		if s.Has(at, 1) {
			return true
		}
	}
	return false
}

func TestImages(t *testing.T) {
	d := dice(3)
	good := 0
	for range 20000 {
		m, e := image.Of(d.throw())
		if e != api.OK {
			continue
		}
		good++
		if m.Flags != rx || m.Size == 0 || m.Size > 4096 || !m.Text(m.Entry) || !slices.Contains(m.Roots(), m.Entry) {
			t.Fatalf("text: %s", show(m))
		}
		all := append([]elf.Seg{m.Seg}, m.Data...)
		for _, a := range m.Stacks {
			all = append(all, stack(0, a.Lo, a.Size))
		}
		for k, s := range all {
			for i, u := range all {
				if i != k && (s.Meets(u) || u.Kind == elf.Stack && near(s, u)) {
					t.Fatalf("segments %d and %d: %s", k, i, show(m))
				}
			}
		}
	}
	if good < 100 {
		t.Error("only", good, "images")
	}
}

// Of and Load take anything.
func TestAnything(t *testing.T) {
	d := dice(5)
	b, _ := elf.Write(program())
	for range 20000 {
		c := slices.Clone(b)
		for range 1 + d.roll(3) {
			c[d.roll(len(c))] = byte(d.roll(256))
		}
		m, e := image.Load(c)
		switch e {
		case api.OK:
			m.Byte(uint64(d.roll(1 << 20)))
			m.Fixed(uint64(d.roll(1 << 20)))
		case api.ErrElf, api.ErrSize, api.ErrText, api.ErrStack, api.ErrRange:
		default:
			t.Error("error", e)
		}
	}
	for _, v := range []uint64{0, 1, 1 << 31, 1 << 32, 1 << 63, noNum} {
		for _, kind := range []int{elf.Load, elf.Stack, 0, -1} {
			f := with(more(elf.Seg{Kind: kind, Flags: int(v), Addr: v, Size: v}), entry(v), rel(v, int64(v)))
			f.Syms = append(f.Syms, elf.Sym{Kind: elf.Func, Addr: v, Size: v})
			image.Of(f)
		}
	}
}
