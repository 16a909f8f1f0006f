package live_test

import (
	"math"
	"slices"
	"testing"

	"calque/api"
	"calque/cfg"
	"calque/elf"
	"calque/image"
	"calque/ir"
	"calque/live"
	"calque/xenc"
	"calque/xinst"
)

const (
	base    = 4096 // of the text
	tableAt = 8192
)

// Instructions that programs are made of. Jumps lead to places in the list.
var (
	nop, ret, ud, sys = xinst.Inst{Op: xinst.Nop, W: 8}, xinst.Inst{Op: xinst.Ret, W: 8}, xinst.Inst{Op: xinst.Ud, W: 8}, xinst.Inst{Op: xinst.Sys, W: 8}
	add               = xinst.Inst{Op: xinst.Add, W: 8, A: r0, B: r1}          // puts all
	inc               = xinst.Inst{Op: xinst.Inc, W: 8, A: r0}                 // puts O, Res
	rol               = xinst.Inst{Op: xinst.Rol, W: 8, A: r0, B: imm, Imm: 1} // puts C, O
	adc               = xinst.Inst{Op: xinst.Adc, W: 8, A: r0, B: r1}          // reads C, puts all
	seto, setc, setz  = set(0), set(2), set(4)                                 // read O, C, Res
	stos              = xinst.Inst{Op: xinst.Stos, W: 1, Rep: true}            // neither
	jmpr, callr       = xinst.Inst{Op: xinst.Jmp, W: 8, A: r3}, xinst.Inst{Op: xinst.Call, W: 8, A: r3}
	table             = xinst.Inst{Op: xinst.Jmp, W: 8, A: xinst.M(-1, 1, 8, tableAt)}
	many              = xinst.Inst{Op: xinst.Cmp, W: 8, A: r1, B: imm, Imm: 1} // ahead of jcc(7, ..): a bound
)

func set(cc int) xinst.Inst           { return xinst.Inst{Op: xinst.Set, W: 1, A: r0, Cc: cc} }
func jcc(cc int, to int64) xinst.Inst { return xinst.Inst{Op: xinst.Jcc, W: 8, Cc: cc, Imm: to} }
func jmp(to int64) xinst.Inst         { return xinst.Inst{Op: xinst.Jmp, W: 8, Imm: to} }
func call(to int64) xinst.Inst        { return xinst.Inst{Op: xinst.Call, W: 8, Imm: to} }

// program is the graph of instructions, the first of which is the entry; others may be roots too. The table leads to the places of some.
func program(t *testing.T, roots, entries []int, l ...xinst.Inst) cfg.Graph {
	t.Helper()
	l, e := xenc.Fix(l...)
	if e != api.OK {
		t.Fatal("Fix", e)
	}
	b, at, _ := xenc.All(l...)
	m := image.Image{Seg: elf.Seg{Kind: elf.Load, Flags: elf.R | elf.X, Addr: base, Size: uint64(len(b)), Data: b}, Entry: base}
	for _, k := range roots {
		m.Funcs = append(m.Funcs, base+uint64(at[k]))
	}
	var words []byte
	for _, k := range entries {
		for n := range 8 {
			words = append(words, byte((base+at[k])>>(8*n)))
		}
	}
	m.Data = []elf.Seg{{Kind: elf.Load, Flags: elf.R, Addr: tableAt, Size: uint64(len(words)), Data: words}}
	g, _, e := cfg.Build(m)
	if e != api.OK {
		t.Fatal("Build", e)
	}
	return g
}

// outs are the flags behind all blocks.
func outs(g cfg.Graph, in []live.Set) []live.Set {
	var l []live.Set
	for k := range g.Blocks {
		l = append(l, live.Out(g, in, k))
	}
	return l
}

// P15.4: flags at the beginnings and ends of blocks, by hand.
func TestBlocks(t *testing.T) {
	for _, x := range []struct {
		what           string
		roots, entries []int
		l              []xinst.Inst
		in, out        []live.Set
	}{
		{"ret", nil, nil, []xinst.Inst{ret}, []live.Set{7}, []live.Set{7}},
		{"ud", nil, nil, []xinst.Inst{setc, ud}, []live.Set{1}, []live.Set{0}},
		{"ud alone", nil, nil, []xinst.Inst{ud}, []live.Set{0}, []live.Set{0}},
		{"the text ends", nil, nil, []xinst.Inst{add, inc}, []live.Set{0}, []live.Set{0}},
		{"jump by a register", nil, nil, []xinst.Inst{rol, jmpr}, []live.Set{4}, []live.Set{7}},
		{"call by a register", nil, nil, []xinst.Inst{inc, callr, ud}, []live.Set{1, 0}, []live.Set{7, 0}},
		{"sys asks for all", nil, nil, []xinst.Inst{sys, ud}, []live.Set{7, 0}, []live.Set{0, 0}},
		{"sys goes on", nil, nil, []xinst.Inst{add, sys, setz, ud}, []live.Set{0, 4}, []live.Set{4, 0}},
		{"a jump", nil, nil, []xinst.Inst{jmp(2), setc, seto, ud}, []live.Set{2, 2}, []live.Set{2, 0}},
		{"a jump out of the text", nil, nil, []xinst.Inst{setz, jmp(2)}, []live.Set{4}, []live.Set{0}},
		{"both ways of a condition", nil, nil, []xinst.Inst{jcc(4, 3), seto, ud, setc, ud}, []live.Set{7, 2, 1}, []live.Set{3, 0, 0}},
		{"what is put on one way", nil, nil, []xinst.Inst{jcc(4, 3), add, setc, setc, ud}, []live.Set{5, 0, 1}, []live.Set{1, 1, 0}},
		{"a loop", nil, nil, []xinst.Inst{inc, setz, jcc(2, 0), ud}, []live.Set{1, 0}, []live.Set{1, 0}},
		{"a loop that puts", nil, nil, []xinst.Inst{setc, add, jcc(4, 0), ud}, []live.Set{1, 0}, []live.Set{1, 0}},
		{"a loop of nothing", nil, nil, []xinst.Inst{nop, jmp(0)}, []live.Set{0}, []live.Set{0}},
		{"strings", nil, nil, []xinst.Inst{stos, setc, ud}, []live.Set{1, 1}, []live.Set{1, 0}},
		{"a call: not what is behind it", nil, nil, []xinst.Inst{call(3), setc, ud, seto, ud}, []live.Set{2, 0 + 1, 2}, []live.Set{2, 0, 0}},
		{"a call of what is behind it", nil, nil, []xinst.Inst{call(1), setc, ud}, []live.Set{1, 1}, []live.Set{1, 0}},
		{"a call out of the text", nil, nil, []xinst.Inst{setz, call(4), setc, ud}, []live.Set{4, 1}, []live.Set{0, 0}},
		{"a call that returns", nil, nil, []xinst.Inst{add, call(3), ud, inc, ret}, []live.Set{0, 0, 1}, []live.Set{1, 0, 7}},
		{"a call of itself", nil, nil, []xinst.Inst{setz, call(0), setc, ud}, []live.Set{4, 1}, []live.Set{4, 0}},
		{"a block ends before another", []int{1}, nil, []xinst.Inst{rol, setz, seto, ud}, []live.Set{4, 6}, []live.Set{6, 0}},
		{"a block ends before another, behind what is no call", []int{2}, nil, []xinst.Inst{nop, nop, call(4), ud, adc, ret}, []live.Set{1, 1, 0, 1}, []live.Set{1, 1, 0, 7}},
		{"a table: all matter", nil, []int{3, 4}, []xinst.Inst{many, jcc(7, 4), table, add, ud}, []live.Set{0, 7, 0, 0}, []live.Set{7, 7, 0, 0}},
	} {
		g := program(t, x.roots, x.entries, x.l...)
		in := live.Blocks(g)
		if out := outs(g, in); !slices.Equal(in, x.in) || !slices.Equal(out, x.out) {
			t.Errorf("%s: %d, %d; want %d, %d", x.what, in, out, x.in, x.out)
		}
	}
}

// P15.4: blocks as they are longest.
func TestLong(t *testing.T) {
	l := append(slices.Repeat([]xinst.Inst{nop}, 70), setc, ud)
	g := program(t, nil, nil, l...)
	if in := live.Blocks(g); !slices.Equal(in, []live.Set{1, 1, 1}) || !slices.Equal(outs(g, in), []live.Set{1, 1, 0}) {
		t.Error(in)
	}
}

// P15.4: Out without a block, or with flags that are not those of the blocks.
func TestOut(t *testing.T) {
	g := program(t, nil, nil, jcc(4, 2), ud, nop, ret)
	for _, x := range []struct {
		in   []live.Set
		k    int
		want live.Set
	}{
		{[]live.Set{0, 1, 2}, 0, 3}, {[]live.Set{7, 0, 0}, 0, 0}, {[]live.Set{0, 0, 4}, 0, 4}, {[]live.Set{0, 1, 2}, 1, 0}, {[]live.Set{0, 1, 2}, 2, 7},
		{[]live.Set{0, 1, 2}, -1, 7}, {[]live.Set{0, 1, 2}, 3, 7}, {[]live.Set{0, 1, 2}, math.MinInt, 7}, {[]live.Set{0, 1, 2}, math.MaxInt, 7},
		{nil, 0, 7}, {nil, 1, 7}, {[]live.Set{0, 1}, 1, 7}, {[]live.Set{0, 1, 2, 3}, 1, 7}, {[]live.Set{0, math.MaxUint32 - 7, 1}, 0, 1},
	} {
		if got := live.Out(g, x.in, x.k); got != x.want {
			t.Errorf("%+v: %d", x, got)
		}
	}
	if live.Out(cfg.Graph{}, nil, 0) != 7 || live.Out(cfg.Graph{}, []live.Set{0}, 0) != 7 || len(live.Blocks(cfg.Graph{})) != 0 {
		t.Error("no blocks")
	}
}

// block is one that cfg need not have made.
func block(at uint64, to []uint64, l ...xinst.Inst) cfg.Block {
	return cfg.Block{At: at, Code: l, To: to}
}

// with has a length.
func with(i xinst.Inst, n int) xinst.Inst {
	i.Len = n
	return i
}

// P15.4: graphs that layer 12 does not build.
func TestAnyGraph(t *testing.T) {
	none := xinst.Inst{}
	for _, x := range []struct {
		what    string
		l       []cfg.Block
		in, out []live.Set
	}{
		{"no code", []cfg.Block{block(1, []uint64{2}), block(2, []uint64{3}), block(3, nil, setc)}, []live.Set{1, 1, 1}, []live.Set{1, 1, 0}},
		{"an instruction that is not valid", []cfg.Block{block(1, nil, none), block(2, nil, add, none), block(3, nil, none, add)}, []live.Set{7, 0, 7}, []live.Set{0, 0, 0}},
		{"an end that is not valid", []cfg.Block{block(1, []uint64{3}, add, xinst.Inst{Op: xinst.Ud}), block(2, nil, add, xinst.Inst{Op: xinst.Jmp, A: imm}), block(3, nil, setc)}, []live.Set{0, 0, 1}, []live.Set{0, 7, 0}},
		{"blocks at one address", []cfg.Block{block(1, []uint64{5}, nop), block(5, nil, setc), block(5, nil, seto), block(5, nil, add, setz)}, []live.Set{3, 1, 2, 0}, []live.Set{3, 0, 0, 0}},
		{"blocks at one address that lead to it", []cfg.Block{block(5, []uint64{5}, setz), block(5, nil, seto), block(5, []uint64{5}, rol)}, []live.Set{6, 2, 4}, []live.Set{6, 0, 6}},
		{"no block in To", []cfg.Block{block(1, []uint64{2, 3, 4, all}, jcc(4, 1))}, []live.Set{4}, []live.Set{0}},
		{"a call whose target is not in To", []cfg.Block{block(1, []uint64{6}, with(call(2), 5)), block(8, nil, setc), block(6, nil, seto)}, []live.Set{0, 1, 2}, []live.Set{0, 0, 0}},
		{"a call with more in To", []cfg.Block{block(1, []uint64{8, 8, 6, 9}, with(call(2), 5)), block(8, nil, setc), block(6, nil, seto), block(9, nil, setz)}, []live.Set{1, 1, 2, 4}, []live.Set{1, 0, 0, 0}},
		{"a call round the end", []cfg.Block{block(all, []uint64{4, 1}, with(call(-3), 5)), block(1, nil, seto), block(4, nil, setc)}, []live.Set{2, 2, 1}, []live.Set{2, 0, 0}},
		{"a jump by a register, with blocks in To", []cfg.Block{block(1, []uint64{2}, inc, jmpr), block(2, nil, add)}, []live.Set{1, 0}, []live.Set{7, 0}},
		{"ret and ud, with blocks in To", []cfg.Block{block(1, []uint64{3}, ud), block(2, []uint64{3}, ret), block(3, nil, setc)}, []live.Set{0, 7, 1}, []live.Set{0, 7, 0}},
		{"blocks in any order", []cfg.Block{block(3, nil, setc), block(2, []uint64{3}, nop), block(1, []uint64{2}, nop)}, []live.Set{1, 1, 1}, []live.Set{0, 1, 1}},
		{"extremes", []cfg.Block{block(all, []uint64{all}, xinst.Inst{Op: xinst.Call, Imm: math.MinInt64, Len: math.MinInt}), block(0, nil, xinst.Inst{Op: math.MaxInt, W: -1, Len: math.MaxInt})}, []live.Set{7, 7}, []live.Set{7, 0}},
	} {
		g := cfg.Graph{Blocks: x.l}
		in := live.Blocks(g)
		if out := outs(g, in); !slices.Equal(in, x.in) || !slices.Equal(out, x.out) {
			t.Errorf("%s: %d, %d; want %d, %d", x.what, in, out, x.in, x.out)
		}
	}
}

// P15.4: a ring of blocks, and the same one cut open, in either direction.
func TestChains(t *testing.T) {
	const n = 1024
	for _, step := range []int{1, n - 1} {
		for _, last := range []xinst.Inst{setc, add} {
			var g cfg.Graph
			for k := range n {
				g.Blocks = append(g.Blocks, block(uint64(k), []uint64{uint64((k + step) % n)}, nop))
			}
			g.Blocks[n/2].Code[0] = last
			want := live.Reads(must(t, last))
			if in := live.Blocks(g); !slices.Equal(in, slices.Repeat([]live.Set{want}, n)) {
				t.Error("ring", step)
			}
			g.Blocks[n/2].To = nil
			g.Blocks[n/4].Code[0] = sys
			for k, in := range live.Blocks(g) {
				cut := k > n/4 && k <= n/2 // from here the last one is reached before the other
				if step != 1 {
					cut = k < n/4 || k >= n/2
				}
				if cut && in != want || !cut && in != 7 {
					t.Error("cut", step, k, in)
				}
			}
		}
	}
}

// No graph is changed, nor the flags that are given, and no result shares memory with another one.
func TestGraphApart(t *testing.T) {
	g := program(t, nil, nil, add, call(3), ud, jcc(4, 0), inc, ret)
	var before []cfg.Block
	for _, b := range g.Blocks {
		before = append(before, cfg.Block{At: b.At, Code: slices.Clone(b.Code), To: slices.Clone(b.To)})
	}
	in := live.Blocks(g)
	kept := slices.Clone(in)
	outs(g, in)
	if !slices.Equal(in, kept) {
		t.Error("changed", in)
	}
	clear(in)
	if again := live.Blocks(g); !slices.Equal(again, kept) {
		t.Error("shared", again)
	}
	for k, b := range g.Blocks {
		if b.At != before[k].At || !slices.Equal(b.Code, before[k].Code) || !slices.Equal(b.To, before[k].To) {
			t.Error("changed", k)
		}
	}
}

// must is the code of a valid instruction.
func must(t *testing.T, i xinst.Inst) ir.Code {
	t.Helper()
	return codes(t, cfg.Block{Code: []xinst.Inst{i}})[0]
}
