package cfg_test

import (
	"fmt"
	"math"
	"reflect"
	"slices"
	"testing"

	"calque/api"
	"calque/cfg"
	"calque/elf"
	"calque/image"
	"calque/xenc"
	"calque/xinst"
)

const (
	all     = math.MaxUint64
	base    = 4096 // of the text
	tableAt = 8192
)

// program is an image of a text, with roots at some of its offsets and a table of addresses.
func program(text []byte, roots []int, table ...uint64) image.Image {
	m := image.Image{Seg: elf.Seg{Kind: elf.Load, Flags: elf.R | elf.X, Addr: base, Size: uint64(len(text)), Data: text}, Entry: base}
	for k, at := range roots {
		if k == 0 {
			m.Entry = base + uint64(at)
		} else {
			m.Funcs = append(m.Funcs, base+uint64(at))
		}
	}
	var b []byte
	for _, v := range table {
		for k := range 8 {
			b = append(b, byte(v>>(8*k)))
		}
	}
	m.Data = []elf.Seg{{Kind: elf.Load, Flags: elf.R, Addr: tableAt, Size: uint64(len(b)), Data: b}}
	return m
}

// show is a graph's text: of each block the address, the instructions and To, as offsets in the text; behind them the entries.
func show(g cfg.Graph) string {
	s := ""
	for _, b := range g.Blocks {
		s += fmt.Sprintf("%d:", b.At-base)
		for _, i := range b.Code {
			s += " " + xinst.Show(i)
		}
		s += fmt.Sprintf(" %v; ", offsets(b.To))
	}
	return s + fmt.Sprint(offsets(g.Entries))
}

func offsets(l []uint64) []int64 {
	out := []int64{}
	for _, at := range l {
		out = append(out, int64(at-base))
	}
	return out
}

// addresses are those of offsets in the text.
func addresses(l ...int) []uint64 {
	var out []uint64
	for _, at := range l {
		out = append(out, base+uint64(at))
	}
	return out
}

// build asks for a graph.
func build(t *testing.T, m image.Image) cfg.Graph {
	t.Helper()
	g, at, e := cfg.Build(m)
	if at != 0 || e != api.OK {
		t.Fatalf("%d, error %d", at, e)
	}
	return g
}

// gives asks for an error.
func gives(t *testing.T, what string, m image.Image, at uint64, want api.Errno) {
	t.Helper()
	g, got, e := cfg.Build(m)
	if len(g.Blocks) != 0 || len(g.Entries) != 0 || got != at || e != want {
		t.Errorf("%s: %s, %d, error %d; want %d, error %d", what, show(g), int64(got-base), e, int64(at-base), want)
	}
}

// The document's example.
func TestExample(t *testing.T) {
	g := build(t, program([]byte{0x74, 0x01, 0x90, 0xC3}, nil))
	if s := show(g); s != "0: jcc.8.4 1 [2 3]; 2: nop.8 [3]; 3: ret.8 []; [0]" {
		t.Error(s)
	}
}

// nops are so many of them.
func nops(n int) []byte { return slices.Repeat([]byte{0x90}, n) }

// cat is bytes behind others.
func cat(l ...[]byte) []byte { return slices.Concat(l...) }

// P12.1: what follows instructions of each kind. Every text begins at offset 0, where its only root is, and ends with its last byte.
func TestFollow(t *testing.T) {
	for _, x := range []struct {
		what string
		text []byte
		want string
	}{
		{"the text ends", nops(2), "0: nop.8 nop.8 []; [0]"},
		{"ret", []byte{0xC3, 0x90}, "0: ret.8 []; [0]"},
		{"ud", []byte{0x0F, 0x0B, 0x90}, "0: ud.8 []; [0]"},
		{"sys", []byte{0x0F, 0x05, 0xC3}, "0: sys.8 [2]; 2: ret.8 []; [0]"},
		{"sys at the end", []byte{0x90, 0x0F, 0x05}, "0: nop.8 sys.8 []; [0]"},
		{"jcc back", []byte{0x90, 0x72, 0xFD, 0xC3}, "0: nop.8 jcc.8.2 -3 [0 3]; 3: ret.8 []; [0]"},
		{"jcc into its own code", []byte{0x90, 0x90, 0x72, 0xFD, 0xC3}, "0: nop.8 [1]; 1: nop.8 jcc.8.2 -3 [1 4]; 4: ret.8 []; [0]"},
		{"jcc to itself", []byte{0x90, 0x72, 0xFE, 0xC3}, "0: nop.8 [1]; 1: jcc.8.2 -2 [1 3]; 3: ret.8 []; [0]"},
		{"jcc to the next one", []byte{0x72, 0x00, 0xC3}, "0: jcc.8.2 0 [2]; 2: ret.8 []; [0]"},
		{"jcc out of the text", []byte{0x72, 0x7F, 0xC3}, "0: jcc.8.2 127 [2]; 2: ret.8 []; [0]"},
		{"jcc before the text", []byte{0x72, 0xFD, 0xC3}, "0: jcc.8.2 -3 [2]; 2: ret.8 []; [0]"},
		{"jcc behind the last byte", []byte{0x72, 0x01, 0xC3}, "0: jcc.8.2 1 [2]; 2: ret.8 []; [0]"},
		{"jcc at the end", []byte{0x90, 0x72, 0xFD}, "0: nop.8 jcc.8.2 -3 [0]; [0]"},
		{"jcc far", cat([]byte{0x0F, 0x84, 1, 0, 0, 0}, []byte{0xC3, 0xC3}), "0: jcc.8.4 1 [6 7]; 6: ret.8 []; 7: ret.8 []; [0]"},
		{"jmp", []byte{0xEB, 0x01, 0xFF, 0xC3}, "0: jmp.8 1 [3]; 3: ret.8 []; [0]"},
		{"jmp to itself", []byte{0xEB, 0xFE}, "0: jmp.8 -2 [0]; [0]"},
		{"jmp out of the text", []byte{0xEB, 0x01, 0xC3}, "0: jmp.8 1 []; [0]"},
		{"jmp by a register", []byte{0xFF, 0xE0, 0xC3}, "0: jmp.8 r0 []; [0]"},
		{"jmp by memory", []byte{0xFF, 0x20, 0xC3}, "0: jmp.8 [r0+0] []; [0]"},
		{"call", []byte{0xE8, 1, 0, 0, 0, 0xC3, 0x90, 0xC3}, "0: call.8 1 [5 6]; 5: ret.8 []; 6: nop.8 ret.8 []; [0 6]"},
		{"call of the next one", []byte{0xE8, 0, 0, 0, 0, 0xC3}, "0: call.8 0 [5]; 5: ret.8 []; [0 5]"},
		{"call of itself", []byte{0x90, 0xE8, 0xFB, 0xFF, 0xFF, 0xFF, 0xC3}, "0: nop.8 [1]; 1: call.8 -5 [1 6]; 6: ret.8 []; [0 1]"},
		{"call of the root", []byte{0xE8, 0xFB, 0xFF, 0xFF, 0xFF, 0xC3}, "0: call.8 -5 [0 5]; 5: ret.8 []; [0]"},
		{"call out of the text", []byte{0xE8, 1, 0, 0, 0, 0xC3}, "0: call.8 1 [5]; 5: ret.8 []; [0]"},
		{"call at the end", []byte{0xE8, 0xFB, 0xFF, 0xFF, 0xFF}, "0: call.8 -5 [0]; [0]"},
		{"call by a register", []byte{0xFF, 0xD0, 0xC3}, "0: call.8 r0 [2]; 2: ret.8 []; [0]"},
		{"call by memory", []byte{0xFF, 0x10, 0xC3}, "0: call.8 [r0+0] [2]; 2: ret.8 []; [0]"},
		{"movs", []byte{0xA4, 0xA5, 0xC3}, "0: movs.1 movs.4 ret.8 []; [0]"},
		{"stos", []byte{0xAA, 0xAB}, "0: stos.1 stos.4 []; [0]"},
		{"rep movs", []byte{0xF3, 0xA4, 0xC3}, "0: rep movs.1 [0 2]; 2: ret.8 []; [0]"},
		{"rep stos within code", []byte{0x90, 0xF3, 0xAB, 0xC3}, "0: nop.8 [1]; 1: rep stos.4 [1 3]; 3: ret.8 []; [0]"},
		{"rep stos at the end", []byte{0x90, 0xF3, 0xAA}, "0: nop.8 [1]; 1: rep stos.1 [1]; [0]"},
	} {
		if s := show(build(t, program(x.text, nil))); s != x.want {
			t.Errorf("%s: %s", x.what, s)
		}
	}
}

// P12.1: code has 32 instructions at most, counted from each leader.
func TestMost(t *testing.T) {
	for _, x := range []struct {
		text  []byte
		roots []int
		want  [][2]int // of each block the offset and the number of instructions
	}{
		{nops(31), nil, [][2]int{{0, 31}}},
		{nops(32), nil, [][2]int{{0, 32}}},
		{nops(33), nil, [][2]int{{0, 32}, {32, 1}}},
		{nops(65), nil, [][2]int{{0, 32}, {32, 32}, {64, 1}}},
		{cat(nops(31), []byte{0xC3, 0x90}), nil, [][2]int{{0, 32}}},
		{cat(nops(32), []byte{0xC3, 0x90}), nil, [][2]int{{0, 32}, {32, 1}}},
		{nops(40), []int{0, 5}, [][2]int{{0, 5}, {5, 27}, {32, 5}, {37, 3}}},
		{nops(40), []int{5}, [][2]int{{5, 32}, {37, 3}}},
	} {
		g := build(t, program(x.text, x.roots))
		var got [][2]int
		for _, b := range g.Blocks {
			got = append(got, [2]int{int(b.At) - base, len(b.Code)})
		}
		if !slices.Equal(got, x.want) {
			t.Errorf("%d bytes, roots %v: %v", len(x.text), x.roots, got)
		}
		for k, b := range g.Blocks[:len(g.Blocks)-1] {
			if !slices.Equal(b.To, []uint64{g.Blocks[k+1].At}) {
				t.Errorf("%d bytes: %v", len(x.text), b.To)
			}
		}
	}
}

// P12.1: roots of all kinds, and code that several of them enter, at bytes where another one is in the middle of an instruction.
func TestRoots(t *testing.T) {
	// mov.4 r0, 0xC3909090, or from the second byte on nop nop nop ret
	text := []byte{0xB8, 0x90, 0x90, 0x90, 0xC3, 0xC3}
	m := program(text, []int{0, 2})
	m.Taken = addresses(1, 2)
	if s := show(build(t, m)); s != "0: mov.4 r0, -1013935984 ret.8 []; 1: nop.8 [2]; 2: nop.8 nop.8 ret.8 []; [0 1 2]" {
		t.Error(s)
	}
	// The same end, reached by both.
	m = program([]byte{0xB8, 0x90, 0x90, 0x90, 0x90, 0xC3}, []int{0, 1, 5})
	if s := show(build(t, m)); s != "0: mov.4 r0, -1869574000 [5]; 1: nop.8 nop.8 nop.8 nop.8 [5]; 5: ret.8 []; [0 1 5]" {
		t.Error(s)
	}
}

// P12.1: texts of a size that may not be.
func TestText(t *testing.T) {
	const full = api.MaxText
	for _, x := range []struct {
		size uint64
		data int
		ok   bool
	}{
		{full, full, true}, {full + 1, full + 1, false}, {full, full + 1, false}, {full + 1, full, false}, {full, full - 1, false}, {full - 1, full, false},
		{1, 1, true}, {1, 0, false}, {0, 1, false}, {all, 1, false}, {all, 0, false}, {1<<32 + 4, 4, false},
	} {
		m := program(nops(x.data), nil)
		m.Size = x.size
		if !x.ok {
			gives(t, fmt.Sprint(x), m, 0, api.ErrText)
		} else if g := build(t, m); len(g.Blocks) != (x.data+31)/32 {
			t.Error(x, len(g.Blocks))
		}
	}
	bad := program(slices.Repeat([]byte{0x06}, full+1), nil)
	gives(t, "bytes that are no instruction", bad, 0, api.ErrText)
}

// P12.1: code that can't be read.
func TestBad(t *testing.T) {
	none := byte(0x06)
	many := cat(slices.Repeat([]byte{0x74, 0x00}, 1100), []byte{none})
	for _, x := range []struct {
		what  string
		text  []byte
		roots []int
		at    int
	}{
		{"the first one", []byte{none}, nil, 0},
		{"behind others", []byte{0x90, 0x90, none}, nil, 2},
		{"behind a jump", []byte{0x74, 0x01, none, 0xC3}, nil, 2},
		{"where a jump leads", []byte{0x74, 0x01, 0xC3, none}, nil, 3},
		{"behind a call", []byte{0xE8, 1, 0, 0, 0, none, 0xC3}, nil, 5},
		{"behind sys", []byte{0x0F, 0x05, none}, nil, 2},
		{"behind rep", []byte{0xF3, 0xA4, none}, nil, 2},
		{"a byte is missing", []byte{0x90, 0xE9, 0, 0, 0}, nil, 1},
		{"a prefix at the end", []byte{0x90, 0x66}, nil, 1},
		{"not in the subset", []byte{0x90, 0xCC}, nil, 1},
		{"the least of two", []byte{0x74, 0x01, none, none}, nil, 2},
		{"the least of two, found last", cat([]byte{0xEB, 0x02, 0x90, none}, []byte{0x74, 0xFC}, []byte{none}), nil, 3},
		{"the least of two, found last", []byte{0x90, none, 0xC3, none}, []int{3, 0}, 1},
		{"a leader that goes farther", []byte{0xB8, none, 0x90, 0x90, 0x90, none}, []int{1, 0}, 1},
		{"the 33rd instruction", cat(nops(32), []byte{none}), nil, 32},
		{"too many blocks too", many, nil, 2200},
	} {
		gives(t, x.what, program(x.text, x.roots), base+uint64(x.at), api.ErrInst)
	}
	for _, x := range []struct {
		what string
		text []byte
	}{
		{"behind ret", []byte{0xC3, none}},
		{"behind jmp", []byte{0xEB, 0x01, none, 0xC3}},
		{"behind ud", []byte{0x0F, 0x0B, none}},
		{"behind a jump by a register", []byte{0xFF, 0xE0, none}},
	} {
		if _, at, e := cfg.Build(program(x.text, nil)); at != 0 || e != api.OK {
			t.Errorf("%s: %d, error %d", x.what, at, e)
		}
	}
}

// P12.1: too many blocks.
func TestBlocks(t *testing.T) {
	for n := 1021; n < 1029; n++ {
		// Each jcc leads to the next one; behind the last one there is ret.
		m := program(cat(slices.Repeat([]byte{0x74, 0x00}, n-1), []byte{0xC3}), nil)
		if n > 1024 {
			gives(t, fmt.Sprint(n), m, 0, api.ErrSize)
		} else if g := build(t, m); len(g.Blocks) != n {
			t.Error(n, len(g.Blocks))
		}
	}
	m := program(nops(4096), nil)
	for k := range 4096 {
		m.Funcs = append(m.Funcs, base+uint64(k))
	}
	gives(t, "as many as the text has bytes", m, 0, api.ErrSize)
}

// Parts of programs.
var (
	nop  = xinst.Inst{Op: xinst.Nop, W: 8}
	ret  = xinst.Inst{Op: xinst.Ret, W: 8}
	sys  = xinst.Inst{Op: xinst.Sys, W: 8}
	ud   = xinst.Inst{Op: xinst.Ud, W: 8}
	free = xinst.Inst{Op: xinst.Jmp, W: 8, A: xinst.R(1)}
)

func cmp(reg int, n int64) xinst.Inst {
	return xinst.Inst{Op: xinst.Cmp, W: 4, A: xinst.R(reg), B: xinst.I(), Imm: n}
}

// jcc, jmp and call lead to the instruction of an index.
func jcc(cc int, to int64) xinst.Inst { return xinst.Inst{Op: xinst.Jcc, W: 8, Cc: cc, Imm: to} }
func ja(to int64) xinst.Inst          { return jcc(7, to) }
func jmp(to int64) xinst.Inst         { return xinst.Inst{Op: xinst.Jmp, W: 8, Imm: to} }
func call(to int64) xinst.Inst        { return xinst.Inst{Op: xinst.Call, W: 8, Imm: to} }

// hop jumps by a table, of which a register tells the place.
func hop(reg int, at int64) xinst.Inst {
	return xinst.Inst{Op: xinst.Jmp, W: 8, A: xinst.M(xinst.No, reg, 8, at)}
}

// assembled are instructions as bytes, and where each of them is.
func assembled(t *testing.T, l ...xinst.Inst) ([]byte, []int) {
	t.Helper()
	fixed, e := xenc.Fix(l...)
	if e != api.OK {
		t.Fatal("Fix", e)
	}
	b, at, e := xenc.All(fixed...)
	if e != api.OK {
		t.Fatal("All", e)
	}
	return b, at
}

// plan is a program of instructions: roots and the table are indexes of instructions.
type plan struct {
	what  string
	code  []xinst.Inst
	roots []int
	table []int
	want  map[int][]int // of blocks, To
}

// check builds the plan, and compares its blocks and To.
func (p plan) check(t *testing.T) cfg.Graph {
	t.Helper()
	text, at := assembled(t, p.code...)
	var roots []int
	for _, k := range p.roots {
		roots = append(roots, at[k])
	}
	var table []uint64
	for _, k := range p.table {
		table = append(table, base+uint64(at[k]))
	}
	g := build(t, program(text, roots, table...))
	got := map[int][]int{}
	for _, b := range g.Blocks {
		l := []int{}
		for _, to := range b.To {
			l = append(l, slices.Index(at, int(to)-base))
		}
		got[slices.Index(at, int(b.At)-base)] = l
	}
	if !reflect.DeepEqual(got, p.want) {
		t.Errorf("%s: %v, not %v", p.what, got, p.want)
	}
	return g
}

// P12.1: tables.
func TestTables(t *testing.T) {
	const at = tableAt
	two := xinst.Inst{Op: xinst.Mov, W: 4, A: xinst.R(2), B: xinst.R(1)}
	one := xinst.Inst{Op: xinst.Mov, W: 4, A: xinst.R(1), B: xinst.R(2)}
	for _, p := range []plan{
		{"the document's", []xinst.Inst{cmp(1, 2), ja(3), hop(1, at), ret, ret, ret, ret}, nil, []int{6, 4, 5},
			map[int][]int{0: {2, 3}, 2: {4, 5, 6}, 3: {}, 4: {}, 5: {}, 6: {}}},
		{"the same entry", []xinst.Inst{cmp(1, 3), ja(3), hop(1, at), ret, ret, ret, ret}, nil, []int{6, 4, 6, 3},
			map[int][]int{0: {2, 3}, 2: {3, 4, 6}, 3: {}, 4: {}, 6: {}}},
		{"fewer entries than there are", []xinst.Inst{cmp(1, 0), ja(3), hop(1, at), ret, ret, ret}, nil, []int{4, 5},
			map[int][]int{0: {2, 3}, 2: {4}, 3: {}, 4: {}}},
		{"more entries than there are", []xinst.Inst{cmp(1, 2), ja(3), hop(1, at), ret, ret, ret}, nil, []int{4, 5},
			map[int][]int{0: {2, 3}, 2: {}, 3: {}}},
		{"code before the jump", []xinst.Inst{nop, cmp(1, 1), ja(6), two, nop, hop(1, at), ret, ret, ret}, nil, []int{7, 8},
			map[int][]int{0: {3, 6}, 3: {7, 8}, 6: {}, 7: {}, 8: {}}},
		{"the register is changed", []xinst.Inst{cmp(1, 1), ja(4), one, hop(1, at), ret, ret}, nil, []int{4, 5},
			map[int][]int{0: {2, 4}, 2: {}, 4: {}}},
		{"another register", []xinst.Inst{cmp(2, 1), ja(3), hop(1, at), ret, ret}, nil, []int{3, 4},
			map[int][]int{0: {2, 3}, 2: {}, 3: {}}},
		{"another condition", []xinst.Inst{cmp(1, 1), jcc(5, 3), hop(1, at), ret, ret}, nil, []int{3, 4},
			map[int][]int{0: {2, 3}, 2: {}, 3: {}}},
		{"where the jump leads there is no bound", []xinst.Inst{cmp(1, 1), ja(3), ret, hop(1, at), ret}, nil, []int{4, 4},
			map[int][]int{0: {2, 3}, 2: {}, 3: {}}},
		{"without a jump", []xinst.Inst{cmp(1, 1), hop(1, at), ret}, nil, []int{2, 2}, map[int][]int{0: {}}},
		{"a leader at the jump", []xinst.Inst{cmp(1, 1), ja(3), hop(1, at), ret, ret}, []int{0, 1}, []int{3, 4},
			map[int][]int{0: {1}, 1: {2, 3}, 2: {3, 4}, 3: {}, 4: {}}},
		{"a leader between, whose own code has no bound", []xinst.Inst{cmp(1, 1), ja(4), nop, hop(1, at), ret, ret}, []int{0, 3}, []int{4, 5},
			map[int][]int{0: {2, 4}, 2: {3}, 3: {}, 4: {}, 5: {}}},
		{"two bounds, by the same register", []xinst.Inst{cmp(1, 1), ja(6), hop(1, at), cmp(1, 1), ja(6), hop(1, at+16), ret, ret, ret}, []int{0, 3}, []int{6, 7, 7, 8},
			map[int][]int{0: {2, 6}, 2: {6, 7}, 3: {5, 6}, 5: {7, 8}, 6: {}, 7: {}, 8: {}}},
		{"what a table tells has a table", []xinst.Inst{cmp(1, 0), ja(3), hop(1, at), ud, cmp(2, 1), ja(7), hop(2, at), ret, ret}, nil, []int{4, 8},
			map[int][]int{0: {2, 3}, 2: {4}, 3: {}, 4: {6, 7}, 6: {4, 8}, 7: {}, 8: {}}},
		{"found when the jump was looked at already", []xinst.Inst{cmp(1, 1), ja(3), hop(1, at), ret, ret, ret, jmp(7), jmp(8), jmp(0)}, []int{2, 6}, []int{4, 5},
			map[int][]int{0: {2, 3}, 2: {4, 5}, 3: {}, 4: {}, 5: {}, 6: {7}, 7: {8}, 8: {0}}},
		{"a call by a table", []xinst.Inst{cmp(1, 1), ja(4), {Op: xinst.Call, W: 8, A: xinst.M(xinst.No, 1, 8, at)}, ret, ret}, nil, []int{4, 4},
			map[int][]int{0: {2, 4}, 2: {3}, 3: {}, 4: {}}},
		{"a table in data that are written", []xinst.Inst{cmp(1, 0), ja(3), hop(1, at+8), ret, ret}, nil, []int{4},
			map[int][]int{0: {2, 3}, 2: {}, 3: {}}},
	} {
		p.check(t)
	}
}

// P12.1: code of 32 instructions that ends between the comparison and the jump gives no bound.
func TestBoundCut(t *testing.T) {
	for n := 29; n < 33; n++ {
		code := slices.Repeat([]xinst.Inst{nop}, n)
		k := int64(n)
		code = append(code, cmp(1, 0), ja(k+3), hop(1, tableAt), ret, ret)
		text, at := assembled(t, code...)
		g := build(t, program(text, nil, base+uint64(at[n+4])))
		// With 31 nops the comparison is the 32nd instruction.
		if g.Has(base+uint64(at[n+4])) != (n != 31) {
			t.Error(n, show(g))
		}
	}
}

// P12.1: bounds of two registers at one address, for the jump's code may be entered behind a prefix.
func TestTwoBounds(t *testing.T) {
	// 49 83 F9 01: cmp.8 r9, 1; from its second byte on cmp.4 r1, 1. Behind it ja over a jump of eight bytes.
	for _, x := range []struct {
		jump  []byte
		roots []int
		ok    bool
	}{
		{[]byte{0x42, 0xFF, 0x24, 0xCD, 0x00, 0x20, 0, 0}, []int{0}, true}, // by r9
		{[]byte{0x40, 0xFF, 0x24, 0xCD, 0x00, 0x20, 0, 0}, []int{0}, false},
		{[]byte{0x42, 0xFF, 0x24, 0xCD, 0x00, 0x20, 0, 0}, []int{1}, false},
		{[]byte{0x40, 0xFF, 0x24, 0xCD, 0x00, 0x20, 0, 0}, []int{1}, true}, // by r1
		{[]byte{0x42, 0xFF, 0x24, 0xCD, 0x00, 0x20, 0, 0}, []int{0, 1}, true},
		{[]byte{0x40, 0xFF, 0x24, 0xCD, 0x00, 0x20, 0, 0}, []int{0, 1}, true},
		{[]byte{0x42, 0xFF, 0x24, 0xCD, 0x00, 0x20, 0, 0}, []int{1, 0}, true},
	} {
		text := cat([]byte{0x49, 0x83, 0xF9, 0x01, 0x77, 0x08}, x.jump, []byte{0xC3, 0xC3, 0xC3})
		g := build(t, program(text, x.roots, addresses(15, 16)...))
		if g.Has(base+15) != x.ok || g.Has(base+16) != x.ok {
			t.Errorf("%v: %s", x, show(g))
		}
		if b, _ := g.Find(base + 6); x.ok != slices.Equal(b.To, addresses(15, 16)) {
			t.Errorf("%v: %s", x, show(g))
		}
	}
}

// P12.1, P12.2: entries, and the functions of each.
func TestFunctions(t *testing.T) {
	p := plan{"functions", []xinst.Inst{
		0: call(4), 1: jcc(4, 3), 2: call(6), 3: ret,
		4: nop, 5: ret,
		6: call(7), 7: jmp(9), 8: nop,
		9: call(4), 10: jcc(4, 4), 11: sys, 12: free,
		13: jmp(13),
	}, []int{0, 13, 6}, nil, map[int][]int{0: {1, 4}, 1: {2, 3}, 2: {3, 6}, 3: {}, 4: {}, 6: {7}, 7: {9}, 9: {4, 10}, 10: {4, 11}, 11: {12}, 12: {}, 13: {13}}}
	g := p.check(t)
	_, at := assembled(t, p.code...)
	pick := func(l ...int) []uint64 {
		var out []uint64
		for _, k := range l {
			out = append(out, base+uint64(at[k]))
		}
		return out
	}
	if want := pick(0, 4, 6, 7, 13); !slices.Equal(g.Entries, want) {
		t.Errorf("entries %v, not %v", g.Entries, want)
	}
	for _, x := range []struct {
		at   int
		want []int
	}{
		{0, []int{0, 1, 2, 3}},
		{4, []int{4}},
		{6, []int{4, 6, 7, 9, 10, 11, 12}}, // 4 is called, but jumped to as well
		{7, []int{4, 7, 9, 10, 11, 12}},
		{13, []int{13}},
		{1, nil}, {9, nil}, {10, nil}, {5, nil}, {8, nil},
	} {
		if got := g.Func(pick(x.at)[0]); !slices.Equal(got, pick(x.want...)) {
			t.Errorf("function of %d: %v, not %v", x.at, got, pick(x.want...))
		}
	}
	for _, to := range []uint64{0, base - 1, all, base + uint64(len(at))*100} {
		if len(g.Func(to)) != 0 {
			t.Error("function of", to)
		}
	}
}

// P12.2: what a graph tells.
func TestGraph(t *testing.T) {
	p := plan{"", []xinst.Inst{cmp(1, 2), ja(3), hop(1, tableAt), ret, nop, ret, ret}, nil, []int{6, 4, 5}, map[int][]int{0: {2, 3}, 2: {4, 5, 6}, 3: {}, 4: {5}, 5: {}, 6: {}}}
	g := p.check(t)
	if want := addresses(0, 12, 19, 20, 21, 22); !slices.Equal(g.Set(), want) {
		t.Error(offsets(g.Set()))
	}
	for at := uint64(base - 2); at < base+30; at++ {
		k := slices.Index(g.Set(), at)
		b, ok := g.Find(at)
		if g.Has(at) != (k >= 0) || ok != (k >= 0) {
			t.Error(at, "found", ok)
		}
		if !ok && !reflect.DeepEqual(b, cfg.Block{}) || ok && !reflect.DeepEqual(b, g.Blocks[k]) {
			t.Errorf("%d: %+v", at, b)
		}
	}
	b := g.Blocks[0]
	if b.End() != base+12 || !slices.Equal(b.Places(), addresses(0, 6)) {
		t.Error(b.End(), b.Places())
	}
	if b = g.Blocks[3]; b.End() != base+21 || !slices.Equal(b.Places(), addresses(20)) {
		t.Error(b.End(), b.Places())
	}
}

// P12.2: graphs and blocks that Build did not make.
func TestAnyGraph(t *testing.T) {
	var g cfg.Graph
	if _, ok := g.Find(0); ok || g.Has(0) || len(g.Set()) != 0 || len(g.Func(0)) != 0 {
		t.Error("a graph without blocks")
	}
	var b cfg.Block
	if b.End() != 0 || len(b.Places()) != 0 {
		t.Error("a block without code")
	}
	b = cfg.Block{At: all - 1, Code: []xinst.Inst{{Len: 3}, {Len: -5}, {Op: xinst.Call, Len: 2, Imm: math.MinInt64}}}
	if b.End() != all-1 || !slices.Equal(b.Places(), []uint64{all - 1, 1, all - 3}) {
		t.Error(b.End(), b.Places())
	}
	g = cfg.Graph{
		Blocks: []cfg.Block{
			{At: 9, To: []uint64{7, 5, 8}}, {At: 5}, {At: 7, To: []uint64{9, 3}}, {At: 1, To: []uint64{5}},
			{At: 3, Code: []xinst.Inst{{Op: xinst.Call, W: 8, Len: 5}}, To: []uint64{8, 9}},
		},
		Entries: []uint64{9, 4, 3},
	}
	if !slices.Equal(g.Set(), []uint64{1, 3, 5, 7, 9}) {
		t.Error(g.Set())
	}
	if b, ok := g.Find(7); !ok || b.At != 7 || !g.Has(1) || g.Has(8) {
		t.Error(b, ok)
	}
	for at, want := range map[uint64][]uint64{9: {3, 5, 7, 9}, 4: nil, 3: {3, 5, 7, 9}, 1: nil} {
		if got := g.Func(at); !slices.Equal(got, want) {
			t.Error(at, got)
		}
	}
}

// P12.1: images that layer 4 does not produce.
func TestAnyImage(t *testing.T) {
	g := build(t, image.Image{})
	if len(g.Blocks) != 0 {
		t.Error(show(g))
	}
	// A root that is not in the text: no block starts there.
	m := program([]byte{0x90, 0xC3}, []int{1, 2, -1})
	m.Taken = []uint64{0, all}
	g = build(t, m)
	if len(g.Blocks) != 1 || g.Blocks[0].At != base+1 || len(g.Func(base+2)) != 0 || len(g.Func(base+1)) != 1 {
		t.Error(show(g))
	}
	// A text up to the last address. Behind it there is none.
	for n := 1; n < 5; n++ {
		m = program(cat(nops(n-1), []byte{0x74, 0x00}), nil)
		m.Addr, m.Entry = -uint64(n)-1, -uint64(n)-1
		g = build(t, m)
		if len(g.Blocks) != 1 || len(g.Blocks[0].Code) != n || len(g.Blocks[0].To) != 0 || g.Blocks[0].End() != 0 {
			t.Errorf("%d: %+v", n, g)
		}
	}
	// A text beyond the last address, of which address 0 is no part.
	m = program(nops(8), nil)
	m.Addr, m.Entry, m.Funcs = all-3, all-3, []uint64{0, 1}
	if g = build(t, m); len(g.Blocks) != 1 || len(g.Blocks[0].Code) != 4 || len(g.Blocks[0].To) != 0 {
		t.Errorf("%+v", g)
	}
}

// What a caller writes into a result, or into what was passed, is in no later one.
func TestOwnResults(t *testing.T) {
	text := []byte{0x74, 0x01, 0x90, 0xE8, 1, 0, 0, 0, 0xC3, 0x90, 0xC3}
	m := program(text, []int{0, 3})
	before := program(slices.Clone(text), []int{0, 3})
	g := build(t, m)
	if !reflect.DeepEqual(m, before) {
		t.Error("the image is changed")
	}
	want := show(g)
	for k := range g.Set() {
		b, _ := g.Find(g.Set()[k])
		for n := range b.Code {
			b.Code[n] = ret
		}
		for n := range b.To {
			b.To[n] = 7
		}
		_ = append(b.Code[:0:cap(b.Code)], ud, ud, ud, ud)
		for _, l := range [][]uint64{g.Set(), b.Places(), g.Func(base), g.Func(base + 3)} {
			for n := range l {
				l[n] = 7
			}
		}
	}
	if s := show(g); s != want {
		t.Error(s)
	}
	for k := range g.Blocks {
		g.Blocks[k].Code = append(g.Blocks[k].Code, ud)
		g.Blocks[k].To = append(g.Blocks[k].To, 7)
	}
	g.Entries[0] = 9
	for k := range text {
		text[k] = 0x06
	}
	if s := show(build(t, before)); s != want {
		t.Error(s)
	}
}
