package link_test

import (
	"math"
	"slices"
	"testing"

	"calque/adec"
	"calque/api"
	"calque/asem"
	"calque/elf"
	"calque/emit"
	"calque/image"
	"calque/ir"
	"calque/lay"
	"calque/link"
	"calque/mem"
	"calque/sel"
	"calque/span"
)

// dice are numbers that look as if they were thrown, always the same ones.
type dice struct{ n uint64 }

func (d *dice) word() uint64 {
	d.n = d.n*6364136223846793005 + 1442695040888963407
	x := d.n ^ d.n>>29
	return x*0x9E3779B97F4A7C15 ^ x>>31
}

func (d *dice) below(n int) int { return int(d.word() >> 33 % uint64(n)) }

// memory is what a thread of an image sees.
func memory(f elf.File) *mem.Mem {
	var l []mem.Area
	for _, s := range f.Segs {
		data := make([]byte, s.Size)
		copy(data, s.Data)
		l = append(l, mem.Area{Lo: s.Addr, Data: data, Write: s.Flags&elf.W != 0 || s.Kind == elf.Stack})
	}
	return mem.New(l...)
}

// thread executes the words of an image.
type thread struct {
	asem.Cpu
	m        *mem.Mem
	executed int
}

// step executes the instruction at Pc.
func (x *thread) step(t *testing.T) int {
	t.Helper()
	w, ok := x.m.Load(0, x.Pc, 4)
	i, valid := adec.Decode(uint32(w))
	if !ok || !valid {
		t.Fatalf("no instruction at %x", x.Pc)
	}
	x.executed++
	return x.Step(0, i, x.m, false)
}

// search executes a search for an address, and returns where it leads, and how it ends.
func (x *thread) search(t *testing.T, d *dice, at uint64, most int) (uint64, int) {
	t.Helper()
	for r := range x.X {
		x.X[r] = d.word()
	}
	x.X[sel.Other] = at
	x.Pc, x.executed = link.Text, 0
	x.Flags = asem.Flags{N: d.below(2) == 0, Z: d.below(2) == 0, C: d.below(2) == 0, V: d.below(2) == 0}
	before := x.X
	length := uint64(4 * len(link.Finder(1))) // also of a search among some thousands
	end := api.Runs
	for x.Pc-link.Text < length && end == api.Runs {
		if end = x.step(t); x.executed > most {
			t.Fatal("too long", at)
		}
	}
	for r, v := range x.X {
		if v != before[r] && (r < sel.First || r > sel.Last) {
			t.Fatal("changed:", r)
		}
	}
	return x.Pc, end
}

// set throws addresses, each greater than the one ahead of it.
func set(d *dice, n int) []uint64 {
	var l []uint64
	for len(l) < n {
		switch d.below(5) {
		case 0:
			l = append(l, 4096+uint64(d.below(3*n)))
		case 1:
			l = append(l, uint64(d.below(n+1)), math.MaxUint64-uint64(d.below(n+1)))
		default:
			l = append(l, d.word()>>d.below(64))
		}
		slices.Sort(l)
		l = slices.Compact(l)
	}
	return l[:n]
}

// blocks are lines of blocks at addresses, some with two versions, and of some others.
func blocks(d *dice, l []uint64) []emit.Line {
	var lines []emit.Line
	for k := range l {
		// In any order.
		n := k + d.below(len(l)-k)
		l[k], l[n] = l[n], l[k]
	}
	for _, at := range l {
		if d.below(4) == 0 {
			lines = append(lines, label(at, 2), nop)
		}
		lines = append(lines, label(at, 0), nop)
		if d.below(3) == 0 {
			lines = append(lines, label(at, 1), brk)
		}
	}
	return lines
}

// others are addresses that may be searched for: those of a set, or the first, the last and some in between, those beside them, and any.
func others(d *dice, set []uint64) []uint64 {
	l := []uint64{0, 1, math.MaxUint64, math.MaxUint64 - 1, link.Text, 1 << 63, 1<<63 - 1}
	for k, at := range set {
		if few := len(set) / 100; few > 0 && k%few != 0 && k != len(set)-1 {
			continue
		}
		l = append(l, at, at-1, at+1, at^1<<63, at^1<<31, d.word())
	}
	return l
}

// P26.1, P26.3: the search reaches the block of an address of the set, and of no other, whatever registers and flags are, and changes registers 19 to 24 alone.
func TestSearch(t *testing.T) {
	d := &dice{7}
	sizes := []int{1023, 1024, 1025, 4096}
	for n := range 40 {
		sizes = append(sizes, n, n, 64+n)
	}
	for _, n := range sizes {
		set := set(d, n)
		all := append(slices.Clone(set), 77, 78, 79)
		slices.Sort(all)
		lines := blocks(d, slices.Compact(all))
		f, laid, e := link.Build(image.Image{}, set, reach, lines...)
		if e != api.OK {
			t.Fatal(e)
		}
		x := &thread{m: memory(f)}
		most, found := 0, 0
		for _, at := range others(d, set) {
			pc, end := x.search(t, d, at, link.Limit(n))
			most = max(most, x.executed)
			if !slices.Contains(set, at) {
				if end != api.Refuses {
					t.Fatalf("%d of %d: at %x, end %d", at, n, pc, end)
				}
				continue
			}
			found++
			if want, ok := laid.Find(at, 0); !ok || pc != want || end != api.Runs {
				t.Fatalf("%d of %d: at %x, not %x, end %d", at, n, pc, want, end)
			}
		}
		if found < min(n, 100) || most > link.Limit(n) || x.Mark != (asem.Access{}) {
			t.Error(n, found, most, x.Mark)
		}
	}
}

// P26.3: a table of more addresses than there are: what is not in it is refused.
func TestNegative(t *testing.T) {
	l, e := lay.Lay(link.Text, 0, 0, reach, link.Finder(-5)...)
	if e != api.OK {
		t.Fatal(e)
	}
	cpu := asem.Cpu{Pc: link.Text}
	for range len(l.Words) {
		i, _ := adec.Decode(l.Words[(cpu.Pc-link.Text)/4])
		if end := cpu.Step(0, i, mem.New(), false); end != api.Runs {
			if end != api.Refuses {
				t.Error(end)
			}
			return
		}
	}
	t.Error("no end")
}

// counted is a program: a block that adds 5 to cell 0 and searches for the address in cell 1; and one that stores cell 0 to the data, reads its text, and asks for a syscall.
func counted(t *testing.T) []emit.Line {
	t.Helper()
	first := &ir.Maker{}
	first.At, first.Next = 4096, 4100
	first.Put(0, first.Alu(ir.Add, first.Get(0), first.Const(5)))
	first.End = ir.End{Kind: ir.Jump, A: first.Get(1)}
	second := &ir.Maker{}
	second.At, second.Next = 4100, 4105
	second.Add(ir.Op{Kind: ir.Store, W: 4, A: second.Const(12290), B: second.Get(0)})
	second.Put(7, second.Add(ir.Op{Kind: ir.Load, W: 4, A: second.Const(4096)}))
	second.End = ir.End{Kind: ir.Sys, To: 9}
	var lines []emit.Line
	for _, m := range []*ir.Maker{first, second} {
		l, e := emit.Lines(m.At, nil, []ir.Code{m.Code}, span.Span{}, false)
		if e != api.OK {
			t.Fatal(e)
		}
		lines = append(lines, l...)
	}
	return lines
}

// P26.2, P26.3, P26.4: a program runs in the image.
func TestProgram(t *testing.T) {
	f, laid, e := link.Build(program(), []uint64{4096, 4100}, 16, counted(t)...)
	if e != api.OK {
		t.Fatal(e)
	}
	start := func(to uint64) (*thread, int) {
		x := &thread{m: memory(f)}
		x.X[0], x.X[1], x.X[sel.Other], x.X[sel.Spill] = 3, to, 4096, link.Room
		x.Pc = f.Entry
		end := api.Runs
		for end == api.Runs {
			end = x.step(t)
		}
		return x, end
	}
	x, end := start(4100)
	v, ok := x.m.Load(0, 12290, 4)
	if end != api.Calls || !ok || v != 8 || x.X[7] != 0x04030201 || x.X[sel.Spill] != link.Room {
		t.Error(end, v, ok, x.X)
	}
	// Behind the syscall is an address that no block is at: the fault.
	if end = x.step(t); end != api.Runs || x.step(t) != api.FaultMem {
		t.Error("the fault", x.Pc)
	}
	if fault := laid.Base + 4*uint64(len(link.Finder(2))); x.Pc != fault {
		t.Error("the fault", x.Pc, fault)
	}
	if x, end = start(4101); end != api.Refuses || x.X[0] != 8 {
		t.Error("refused", end)
	}
	if _, end = start(4096 + 1<<47); end != api.Refuses {
		t.Error("refused", end)
	}
	// The text, and the table, cannot be written.
	for _, at := range []uint64{4096, 8192, link.Text, link.Table} {
		if x.m.May(0, at, 1, true) || !x.m.May(0, at, 1, false) {
			t.Error(at)
		}
	}
	if !x.m.May(0, link.Room, 8, true) || !x.m.May(0, link.Room+8*2048-8, 8, true) || x.m.May(0, link.Room+8*2048, 1, true) {
		t.Error("room")
	}
}
