package cfg_test

import (
	"fmt"
	"slices"
	"strings"
	"testing"

	"calque/api"
	"calque/cfg"
	"calque/image"
	"calque/jumps"
	"calque/xdec"
	"calque/xinst"
)

// trace is the code from an address: where each instruction is, and where one can't be read (or 0).
type trace struct {
	at   []uint64
	code []xinst.Inst
	bad  uint64
}

// reading is a second reading of the document: each round looks at all leaders anew, until no round finds one more.
type reading struct {
	image.Image
	traces map[uint64]trace // of the leaders
}

// trace reads the code from an address byte by byte.
func (r reading) trace(at uint64) trace {
	var t trace
	for len(t.code) < 32 && r.Text(at) {
		var b []byte
		for k := range uint64(15) {
			if c, ok := r.Byte(at + k); ok && r.Text(at+k) {
				b = append(b, c)
			}
		}
		i, e := xdec.Decode(b)
		if e != api.OK {
			t.bad = at
			return t
		}
		t.at, t.code = append(t.at, at), append(t.code, i)
		at += uint64(i.Len)
		if i.Ends() {
			return t
		}
	}
	return t
}

// limits are the bounds at an address.
func (r reading) limits(at uint64) []jumps.Limit {
	var l []jumps.Limit
	for _, t := range r.traces {
		if b, ok := jumps.Bound(t.code...); ok && t.bad == 0 && t.end() == at {
			l = append(l, b)
		}
	}
	return l
}

// end is the address behind the code.
func (t trace) end() uint64 {
	k := len(t.code) - 1
	return t.at[k] + uint64(t.code[k].Len)
}

// follow are the addresses that the document lists for a leader: those to which its last instruction leads, those behind it, itself.
func (r reading) follow(t trace) []uint64 {
	k := len(t.code) - 1
	name := xinst.Show(t.code[k])
	var l []uint64
	is := func(list string) bool {
		return slices.ContainsFunc(strings.Fields(list), func(s string) bool { return strings.HasPrefix(name, s+".") })
	}
	rep := strings.HasPrefix(name, "rep ")
	if is("jcc jmp call") && t.code[k].A.Kind == xinst.None {
		l = append(l, t.end()+uint64(t.code[k].Imm))
	}
	if !is("jmp ret ud") {
		l = append(l, t.end())
	}
	if rep {
		l = append(l, t.at[k])
	}
	for _, b := range r.limits(t.at[0]) {
		table, _ := jumps.Table(r.Image, b, t.code...)
		l = append(l, table...)
	}
	l = slices.DeleteFunc(l, func(to uint64) bool { return to < r.Addr || to-r.Addr >= r.Size })
	slices.Sort(l)
	return slices.Compact(l)
}

// search finds the leaders.
func (r reading) search() {
	for _, at := range r.Roots() {
		r.traces[at] = r.trace(at)
	}
	for n := 0; n != len(r.traces); {
		n = len(r.traces)
		for _, at := range r.leaders() {
			if t := r.traces[at]; t.bad == 0 {
				for _, to := range r.follow(t) {
					r.traces[to] = r.trace(to)
				}
			}
		}
	}
}

// leaders are those found, in their order.
func (r reading) leaders() []uint64 {
	var l []uint64
	for at := range r.traces {
		l = append(l, at)
	}
	slices.Sort(l)
	return l
}

// build is the answer of Build.
func (r reading) build() (cfg.Graph, uint64, api.Errno) {
	bad := uint64(0)
	for _, t := range r.traces {
		if t.bad != 0 && (bad == 0 || t.bad < bad) {
			bad = t.bad
		}
	}
	if bad != 0 {
		return cfg.Graph{}, bad, api.ErrInst
	}
	if len(r.traces) > 1024 {
		return cfg.Graph{}, 0, api.ErrSize
	}
	g := cfg.Graph{Entries: r.Roots()}
	for _, at := range r.leaders() {
		t := r.traces[at]
		b := cfg.Block{At: at, Code: t.code, To: r.follow(t)}
		for k := len(t.code) - 1; k > 0; k-- {
			if _, ok := r.traces[t.at[k]]; ok {
				b.Code, b.To = t.code[:k], []uint64{t.at[k]}
			}
		}
		g.Blocks = append(g.Blocks, b)
		if last := t.code[len(t.code)-1]; last.Op == xinst.Call && last.A.Kind == xinst.None && r.Text(t.end()+uint64(last.Imm)) {
			g.Entries = append(g.Entries, t.end()+uint64(last.Imm))
		}
	}
	slices.Sort(g.Entries)
	g.Entries = slices.Compact(g.Entries)
	return g, 0, api.OK
}

// function is that of an entry: what is reached is spread until nothing more is.
func function(g cfg.Graph, at uint64) []uint64 {
	reached := map[uint64]bool{at: true}
	for n := 0; n != len(reached); {
		n = len(reached)
		for _, b := range g.Blocks {
			last := b.Code[len(b.Code)-1]
			for _, to := range b.To {
				if reached[b.At] && (last.Op != xinst.Call || to == b.End()) {
					reached[to] = true
				}
			}
		}
	}
	var l []uint64
	for at := range reached {
		l = append(l, at)
	}
	slices.Sort(l)
	return l
}

// dice are numbers that look as if they were thrown, always the same ones.
type dice struct{ n uint64 }

func (d *dice) below(n int) int {
	d.n = d.n*6364136223846793005 + 1442695040888963407
	x := d.n ^ d.n>>29
	return int((x*0x9E3779B97F4A7C15 ^ x>>31) >> 33 % uint64(n))
}

// some are a few instructions, of those that are to be n in all.
func (d *dice) some(n int) []xinst.Inst {
	to, reg := int64(d.below(n+1)), d.below(3)*3
	stos := xinst.Inst{Op: xinst.Stos, W: 1 << d.below(4), Rep: d.below(2) == 0}
	mov := xinst.Inst{Op: xinst.Mov, W: 4, A: xinst.R(d.below(16)), B: xinst.I(), Imm: int64(d.below(1 << 30))}
	table := hop(reg, tableAt+8*int64(d.below(8)))
	switch d.below(20) {
	case 0, 1, 2:
		return []xinst.Inst{cmp(reg, int64(d.below(4))), ja(to), table}
	case 3:
		return []xinst.Inst{cmp(reg, int64(d.below(4))), ja(to), mov, table}
	case 4:
		return []xinst.Inst{cmp(9-reg, int64(d.below(4))), jcc(d.below(16), to), table}
	case 5:
		return []xinst.Inst{cmp(reg, int64(d.below(4))), ja(to)}
	case 6, 7:
		return []xinst.Inst{jcc(d.below(16), to)}
	case 8, 9:
		return []xinst.Inst{jmp(to)}
	case 10, 11:
		return []xinst.Inst{call(to)}
	case 12:
		return []xinst.Inst{sys}
	case 13:
		return []xinst.Inst{[]xinst.Inst{ret, ud, free}[d.below(3)]}
	case 14:
		return []xinst.Inst{stos}
	case 15:
		return []xinst.Inst{table}
	case 16:
		return slices.Repeat([]xinst.Inst{nop}, d.below(35))
	}
	return []xinst.Inst{mov, nop}[:1+d.below(2)]
}

// program is an image of any code with tables. Some roots and jumps lead into the middle of instructions, some bytes are any.
func (d *dice) program(t *testing.T) image.Image {
	n := 3 + d.below(120)
	var code []xinst.Inst
	for len(code) < n {
		code = append(code, d.some(n)...)
	}
	text, at := assembled(t, append(code[:n], ret)...)
	if d.below(3) == 0 {
		text[d.below(len(text))] = byte(d.below(256))
	}
	if d.below(4) == 0 {
		text = text[:1+d.below(len(text))]
	}
	spot := func() int {
		if k := at[d.below(n)]; k < len(text) && d.below(40) > 0 {
			return k
		}
		return d.below(len(text))
	}
	var roots []int
	for range 1 + d.below(5) {
		roots = append(roots, spot())
	}
	var table []uint64
	for range 12 {
		table = append(table, base+uint64(spot()))
	}
	if d.below(3) == 0 {
		table[d.below(12)] = base - 1
	}
	return program(text, roots, table...)
}

// compare builds the graph of an image, and holds it against the second reading.
func compare(t *testing.T, m image.Image) (cfg.Graph, api.Errno) {
	t.Helper()
	r := reading{m, map[uint64]trace{}}
	r.search()
	want, wantAt, wantEnd := r.build()
	g, at, e := cfg.Build(m)
	if show(g) != show(want) || at != wantAt || e != wantEnd {
		t.Fatalf("% x: %s, %d, error %d; not %s, %d, error %d", m.Seg.Data, show(g), at, e, show(want), wantAt, wantEnd)
	}
	consequences(t, m, g, e)
	return g, e
}

// P12.1 to P12.5: many programs, held against the second reading.
func TestPrograms(t *testing.T) {
	d := &dice{1}
	ends := map[api.Errno]int{}
	tables, functions := 0, 0
	for range 4000 {
		m := d.program(t)
		g, e := compare(t, m)
		ends[e]++
		for _, at := range g.Entries {
			got, want := g.Func(at), function(g, at)
			if !slices.Equal(got, want) {
				t.Fatalf("% x: function of %d: %v, not %v", m.Seg.Data, at-base, offsets(got), offsets(want))
			}
			functions += len(got) - 1
		}
		for _, b := range g.Blocks {
			if last := b.Code[len(b.Code)-1]; last.Op == xinst.Jmp && last.A.Kind == xinst.Mem {
				tables += len(b.To)
			}
		}
	}
	if ends[api.OK] < 1000 || ends[api.ErrInst] < 500 || tables < 1000 || functions < 5000 {
		t.Error("the programs are too plain", ends, tables, functions)
	}
}

// consequences checks P12.3, P12.4 and P12.5.
func consequences(t *testing.T, m image.Image, g cfg.Graph, e api.Errno) {
	t.Helper()
	if e != api.OK {
		return
	}
	need := m.Roots()
	for k, b := range g.Blocks {
		need = append(need, b.To...)
		if len(b.Code) == 0 || len(b.Code) > cfg.Most || k > 0 && g.Blocks[k-1].At >= b.At {
			t.Fatal("block", b)
		}
		for n, at := range b.Places() {
			if !m.Text(at) || n > 0 && g.Has(at) || n < len(b.Code)-1 && b.Code[n].Ends() {
				t.Fatal("instruction", n, "of block", b)
			}
		}
		if !b.Code[len(b.Code)-1].Ends() && !g.Has(b.End()) && len(b.Code) != cfg.Most && m.Text(b.End()) {
			t.Fatal("the end of block", b)
		}
	}
	for _, at := range need {
		if !g.Has(at) {
			t.Fatal(fmt.Sprintf("no block at %d of", at), show(g))
		}
	}
}

// P12.1: any bytes, from any root.
func TestAnyBytes(t *testing.T) {
	d := &dice{2}
	ends := map[api.Errno]int{}
	for range 3000 {
		text := make([]byte, 1+d.below(60))
		for k := range text {
			text[k] = byte(d.below(256))
			if d.below(2) == 0 {
				text[k] = []byte{0x90, 0xC3, 0x74, 0xEB, 0x77, 0x83, 0xF9, 1, 0, 0xE8, 0xF3, 0xAA, 0x0F, 0x05, 0x48, 0x40}[d.below(16)]
			}
		}
		m := program(text, []int{d.below(len(text)), d.below(len(text))}, base, base+1)
		_, e := compare(t, m)
		ends[e]++
	}
	if ends[api.OK] < 100 || ends[api.ErrInst] < 1000 {
		t.Error("the bytes are too plain", ends)
	}
}
