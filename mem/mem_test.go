package mem_test

import (
	"bytes"
	"math"
	"testing"

	"calque/mem"
)

// dice are numbers that look as if they were thrown, always the same ones.
type dice struct{ n uint64 }

func (d *dice) word() uint64 {
	d.n = d.n*6364136223846793005 + 1442695040888963407
	x := d.n ^ d.n>>29
	return x*0x9E3779B97F4A7C15 ^ x>>31
}

func (d *dice) below(n int) int { return int(d.word() >> 33 % uint64(n)) }

const (
	all  = math.MaxUint64
	most = 65536 // stores in a buffer
)

var (
	widths    = []int{1, 2, 4, 8}
	noWidths  = []int{0, -1, 3, 5, 6, 7, 9, 16, 64, math.MinInt, math.MaxInt}
	noThreads = []int{-1, 8, 9, math.MinInt, math.MaxInt}
)

// one is a single byte that a thread stores.
type one struct {
	at uint64
	b  byte
}

// plain is memory by a second reading of the document: byte by byte, whatever it costs.
type plain struct {
	areas  []mem.Area
	owner  map[int]int // of the areas that have one
	buffer [8][][]one
}

func newPlain(l []mem.Area) *plain {
	p := &plain{owner: map[int]int{}}
	for _, a := range l {
		a.Data = bytes.Clone(a.Data)
		p.areas = append(p.areas, a)
	}
	return p
}

// where is the area and the place in it of an address.
func (p *plain) where(at uint64) (int, int) {
	for k, a := range p.areas {
		for n := range a.Data {
			if a.Lo+uint64(n) == at {
				return k, n
			}
		}
	}
	return -1, 0
}

func (p *plain) may(t int, at uint64, w int, write bool) bool {
	if t < 0 || t > 7 || w != 1 && w != 2 && w != 4 && w != 8 {
		return false
	}
	for n := range w {
		if n > 0 && at+uint64(n) == 0 {
			return false
		}
		k, _ := p.where(at + uint64(n))
		if k < 0 || write && !p.areas[k].Write {
			return false
		}
		if owner, ok := p.owner[k]; p.areas[k].Private && (!ok || owner != t) {
			return false
		}
	}
	return true
}

func (p *plain) sees(t int, at uint64) byte {
	k, n := p.where(at)
	b := p.areas[k].Data[n]
	for _, s := range p.buffer[t] {
		for _, o := range s {
			if o.at == at {
				b = o.b
			}
		}
	}
	return b
}

func (p *plain) load(t int, at uint64, w int) (uint64, bool) {
	if !p.may(t, at, w, false) {
		return 0, false
	}
	v := uint64(0)
	for n := w - 1; n >= 0; n-- {
		v = v*256 + uint64(p.sees(t, at+uint64(n)))
	}
	return v, true
}

func (p *plain) store(t int, at uint64, w int, v uint64) bool {
	if !p.may(t, at, w, true) {
		return false
	}
	if len(p.buffer[t]) == most {
		p.drain(t)
	}
	var s []one
	for n := range w {
		s = append(s, one{at + uint64(n), byte(v >> (8 * n))})
	}
	p.buffer[t] = append(p.buffer[t], s)
	return true
}

func (p *plain) drain(t int) bool {
	if t < 0 || t > 7 || len(p.buffer[t]) == 0 {
		return false
	}
	for _, o := range p.buffer[t][0] {
		k, n := p.where(o.at)
		p.areas[k].Data[n] = o.b
	}
	p.buffer[t] = p.buffer[t][1:]
	return true
}

func (p *plain) flush(t int) int {
	n := 0
	for p.drain(t) {
		n++
	}
	return n
}

func (p *plain) put(t int, at uint64, w int, v uint64) bool {
	if !p.may(t, at, w, true) {
		return false
	}
	p.flush(t)
	p.store(t, at, w, v)
	return p.drain(t)
}

func (p *plain) own(t, k int) bool {
	if t < 0 || t > 7 || k < 0 || k >= len(p.areas) || !p.areas[k].Private {
		return false
	}
	if _, ok := p.owner[k]; ok {
		return false
	}
	p.owner[k] = t
	return true
}

// same reports whether two lists of areas are equal.
func same(l, k []mem.Area) bool {
	if len(l) != len(k) {
		return false
	}
	for n, a := range l {
		b := k[n]
		if a.Lo != b.Lo || a.Write != b.Write || a.Private != b.Private || !bytes.Equal(a.Data, b.Data) {
			return false
		}
	}
	return true
}

// areas are of all kinds: side by side, one over another, around the end of the addresses, empty.
func areas() []mem.Area {
	return []mem.Area{
		{Lo: 16, Data: []byte{1, 2, 3, 4, 5, 6, 7, 8, 9, 10}, Write: true},
		{Lo: 26, Data: []byte{11, 12, 13, 14, 15}},
		{Lo: 31, Data: []byte{16, 17, 18, 19, 20, 21, 22, 23}, Write: true, Private: true},
		{Lo: 37, Data: []byte{31, 32, 33, 34, 35, 36, 37}, Write: true},
		{Lo: 20, Data: make([]byte, 30), Private: true},
		{Lo: 1000, Write: true},
		{Lo: all - 8, Data: []byte{1, 2, 3, 4, 5, 6, 7, 8, 9, 10, 11, 12, 13, 14}, Write: true},
	}
}

// somewhere is an address in one of these areas, or near.
func (d *dice) somewhere() uint64 {
	switch d.below(8) {
	case 0:
		return all - 12 + uint64(d.below(25))
	case 1:
		return d.word()
	}
	return 12 + uint64(d.below(42))
}

func (d *dice) width() int {
	if d.below(20) == 0 {
		return noWidths[d.below(len(noWidths))]
	}
	return widths[d.below(4)]
}

func (d *dice) thread() int {
	if d.below(30) == 0 {
		return noThreads[d.below(len(noThreads))]
	}
	return d.below(4) * d.below(4) % 8
}

// pair is memory and its second reading.
type pair struct {
	m *mem.Mem
	p *plain
}

// act makes the same call of both, and reports whether they return the same.
func (x pair) act(d *dice) bool {
	t, at, w, v := d.thread(), d.somewhere(), d.width(), d.word()
	switch d.below(8) {
	case 0:
		return x.m.Put(t, at, w, v) == x.p.put(t, at, w, v)
	case 1, 2, 3:
		return x.m.Store(t, at, w, v) == x.p.store(t, at, w, v)
	case 4, 5:
		return x.m.Drain(t) == x.p.drain(t)
	case 6:
		if d.below(4) == 0 {
			return x.m.Flush(t) == x.p.flush(t)
		}
	case 7:
		if d.below(10) == 0 {
			k := d.below(10) - 1
			return x.m.Own(t, k) == x.p.own(t, k)
		}
	}
	return true
}

// agrees compares what both tell at an address, and what they are.
func (x pair) agrees(t *testing.T, d *dice) {
	t.Helper()
	for range 4 {
		n, at, w, write := d.thread(), d.somewhere(), d.width(), d.below(2) == 0
		if got, want := x.m.May(n, at, w, write), x.p.may(n, at, w, write); got != want {
			t.Fatalf("May(%d, %d, %d, %v): %v", n, at, w, write, got)
		}
		v, ok := x.m.Load(n, at, w)
		if v2, ok2 := x.p.load(n, at, w); v != v2 || ok != ok2 {
			t.Fatalf("Load(%d, %d, %d): %x %v, not %x %v", n, at, w, v, ok, v2, ok2)
		}
		if n >= 0 && n < 8 && x.m.Pending(n) != len(x.p.buffer[n]) {
			t.Fatalf("Pending(%d): %d", n, x.m.Pending(n))
		}
		b, ok := x.m.Byte(at)
		k, place := x.p.where(at)
		if ok != (k >= 0) || ok && b != x.p.areas[k].Data[place] || !ok && b != 0 {
			t.Fatalf("Byte(%d): %d %v", at, b, ok)
		}
	}
	if !same(x.m.Areas(), x.p.areas) {
		t.Fatalf("Areas: %v, not %v", x.m.Areas(), x.p.areas)
	}
}

// P9.1 to P9.4: many calls, each compared with the second reading.
func TestAll(t *testing.T) {
	d := &dice{1}
	for range 60 {
		x := pair{mem.New(areas()...), newPlain(areas())}
		for n := range 400 {
			if !x.act(d) {
				t.Fatal("call", n)
			}
			x.agrees(t, d)
		}
	}
}

// P9.1, P9.4: a copy goes its own way.
func TestCopy(t *testing.T) {
	d := &dice{2}
	for range 30 {
		x := pair{mem.New(areas()...), newPlain(areas())}
		start := d.n
		for range 200 {
			x.act(d)
		}
		y := pair{x.m.Copy(), newPlain(areas())}
		// The second reading of the copy is brought to the same state by the same calls.
		again := &dice{start}
		first := pair{mem.New(areas()...), y.p}
		for range 200 {
			first.act(again)
		}
		for range 200 {
			if !x.act(d) || !y.act(d) {
				t.Fatal("calls")
			}
			x.agrees(t, d)
			y.agrees(t, d)
		}
	}
}

// zeros is memory with one area of zero bytes, which may be written.
func zeros(lo uint64, n int) *mem.Mem {
	return mem.New(mem.Area{Lo: lo, Data: make([]byte, n), Write: true})
}

// is fails the test unless a thread sees a number.
func is(t *testing.T, m *mem.Mem, thread int, at uint64, w int, want uint64) {
	t.Helper()
	if v, ok := m.Load(thread, at, w); v != want || !ok {
		t.Errorf("Load(%d, %d, %d): %x %v, not %x", thread, at, w, v, ok, want)
	}
}

// The document's example.
func TestExample(t *testing.T) {
	m := zeros(16, 4)
	if !m.Store(0, 16, 2, 258) {
		t.Error("Store")
	}
	is(t, m, 0, 16, 4, 258)
	is(t, m, 1, 16, 4, 0)
	if !m.Drain(0) {
		t.Error("Drain")
	}
	is(t, m, 1, 16, 4, 258)
	if v, ok := m.Load(0, 18, 4); v != 0 || ok {
		t.Error("beyond", v, ok)
	}
}

// P9.1: what New is given is copied; there are no stores and no owners.
func TestNew(t *testing.T) {
	data := []byte{1, 2, 3, 4}
	l := []mem.Area{{Lo: 8, Data: data, Write: true}, {Lo: 64, Data: data, Private: true}}
	m := mem.New(l...)
	data[0] = 99
	l[0] = mem.Area{}
	is(t, m, 0, 8, 4, 0x04030201)
	for n := range 8 {
		if m.Pending(n) != 0 || m.Flush(n) != 0 || m.Drain(n) {
			t.Error("stores of", n)
		}
		if m.May(n, 64, 1, false) {
			t.Error("thread", n, "owns an area")
		}
	}
	m.Put(0, 8, 1, 7)
	if data[0] != 99 {
		t.Error("what was given is changed")
	}
	if n := mem.New(); n == nil || len(n.Areas()) != 0 || n.May(0, 0, 1, false) || !n.Same(mem.New()) {
		t.Error("memory without areas")
	}
}

// P9.1: the ends of areas, and of the addresses.
func TestMay(t *testing.T) {
	m := mem.New(areas()...)
	m.Own(3, 2)
	for _, c := range []struct {
		t     int
		at    uint64
		w     int
		write bool
		want  bool
	}{
		{0, 16, 8, true, true},
		{0, 15, 1, false, false},
		{0, 15, 2, false, false},
		{0, 18, 8, true, true},
		{0, 19, 8, true, false},  // its last byte is not writable
		{0, 19, 8, false, true},  // two areas
		{0, 26, 1, true, false},  // not writable
		{0, 30, 1, false, true},  // the last of the area
		{0, 30, 2, false, false}, // the next area is private
		{3, 30, 2, false, true},
		{3, 30, 2, true, false},
		{3, 31, 8, true, true},
		{0, 37, 1, false, false}, // the private area counts, not the one behind it
		{0, 39, 4, true, true},
		{3, 37, 4, true, true},
		{0, 44, 1, false, false}, // only in the last private area
		{0, 1000, 1, false, false},
		{0, all - 8, 8, true, true},
		{0, all - 7, 8, true, true},
		{0, all - 6, 8, true, false}, // beyond the last address
		{0, all, 1, true, true},
		{0, all, 2, false, false},
		{0, 0, 4, true, true}, // the same area goes on at 0
		{0, 1, 4, true, true},
		{0, 2, 4, true, false},
		{0, 5, 1, true, false},
	} {
		if got := m.May(c.t, c.at, c.w, c.write); got != c.want {
			t.Errorf("%+v: %v", c, got)
		}
		if _, got := m.Load(c.t, c.at, c.w); !c.write && got != c.want {
			t.Errorf("Load %+v: %v", c, got)
		}
		if got := m.Copy().Store(c.t, c.at, c.w, 5); c.write && got != c.want {
			t.Errorf("Store %+v: %v", c, got)
		}
		if got := m.Copy().Put(c.t, c.at, c.w, 5); c.write && got != c.want {
			t.Errorf("Put %+v: %v", c, got)
		}
	}
	for _, w := range noWidths {
		if m.May(0, 16, w, false) || m.Store(0, 16, w, 1) || m.Put(0, 16, w, 1) {
			t.Error("width", w)
		}
		if v, ok := m.Load(0, 16, w); v != 0 || ok {
			t.Error("width", w, v)
		}
	}
}

// P9.2: only the lowest bytes are stored, the lowest first; the last store of each byte is seen.
func TestBytes(t *testing.T) {
	m := zeros(16, 8)
	m.Store(0, 16, 8, 0x8877665544332211)
	m.Store(0, 18, 2, 0xFFFF_BBAA)
	m.Store(0, 17, 1, 0xFFCC)
	is(t, m, 0, 16, 8, 0x88776655BBAACC11)
	is(t, m, 0, 17, 2, 0xAACC)
	is(t, m, 0, 19, 4, 0x776655BB)
	m.Drain(0)
	is(t, m, 1, 16, 8, 0x8877665544332211)
	is(t, m, 0, 16, 8, 0x88776655BBAACC11)
	if m.Pending(0) != 2 || m.Pending(1) != 0 {
		t.Error("Pending", m.Pending(0))
	}
	if !m.Put(0, 20, 1, 0x1234) || m.Pending(0) != 0 {
		t.Error("Put leaves stores")
	}
	is(t, m, 1, 16, 8, 0x88776634BBAACC11)
	m.Store(1, 16, 1, 1)
	m.Put(0, 16, 2, 2)
	if m.Pending(1) != 1 {
		t.Error("Put flushes another thread's buffer")
	}
	is(t, m, 1, 16, 2, 1)
	is(t, m, 0, 16, 2, 2)
}

// P9.2: a store to a full buffer drains the first one, and only that.
func TestFull(t *testing.T) {
	m := zeros(0, 4)
	for n := range most {
		m.Store(2, uint64(n%2), 1, uint64(n+1))
	}
	if b, _ := m.Byte(0); m.Pending(2) != most || b != 0 {
		t.Error("a buffer that is not over-full is drained")
	}
	if m.Store(2, 9, 1, 5); m.Pending(2) != most {
		t.Error("a store that may not be drains")
	}
	if !m.Store(2, 2, 2, 0x7766) {
		t.Error("Store")
	}
	if b, _ := m.Byte(0); m.Pending(2) != most || b != 1 {
		t.Error("full:", m.Pending(2), b)
	}
	if b, _ := m.Byte(1); b != 0 {
		t.Error("two are drained")
	}
	is(t, m, 2, 0, 4, 0x776600FF)
	is(t, m, 1, 0, 4, 1)
	if n := m.Flush(2); n != most || m.Pending(2) != 0 {
		t.Error("Flush", n)
	}
	is(t, m, 1, 0, 4, 0x776600FF)
}

// P9.3: a private area has one owner, forever; a thread may own many.
func TestOwn(t *testing.T) {
	m := mem.New(
		mem.Area{Lo: 0, Data: make([]byte, 4), Private: true, Write: true},
		mem.Area{Lo: 8, Data: make([]byte, 4), Write: true},
		mem.Area{Lo: 16, Data: make([]byte, 4), Private: true},
	)
	for _, k := range []int{-1, 1, 3, math.MinInt, math.MaxInt} {
		if m.Own(0, k) {
			t.Error("Own", k)
		}
	}
	for _, n := range noThreads {
		if m.Own(n, 0) {
			t.Error("thread", n)
		}
	}
	if !m.Own(7, 0) || m.Own(7, 0) || m.Own(0, 0) || !m.Own(7, 2) || m.Own(1, 2) {
		t.Error("owners")
	}
	if !m.May(7, 0, 4, true) || m.May(0, 0, 1, false) || !m.May(7, 16, 4, false) || m.May(7, 16, 4, true) {
		t.Error("what owners may")
	}
	if c := m.Copy(); !c.May(7, 0, 4, true) || c.Own(0, 0) {
		t.Error("a copy has no owners")
	}
	if b, ok := m.Byte(0); b != 0 || !ok {
		t.Error("Byte of a private area")
	}
}

// P9.4: memories are the same if their areas are, whatever their buffers and owners.
func TestSame(t *testing.T) {
	l := areas()
	m := mem.New(l...)
	n := mem.New(l...)
	n.Own(1, 2)
	n.Store(1, 16, 1, 99)
	if !m.Same(n) || !n.Same(m) || !m.Same(m) || !m.Same(m.Copy()) {
		t.Error("the same")
	}
	n.Drain(1)
	if m.Same(n) || n.Same(m) {
		t.Error("other bytes")
	}
	for k, change := range []func(a []mem.Area) []mem.Area{
		func(a []mem.Area) []mem.Area { a[0].Lo++; return a },
		func(a []mem.Area) []mem.Area { a[0].Write = false; return a },
		func(a []mem.Area) []mem.Area { a[1].Private = true; return a },
		func(a []mem.Area) []mem.Area { a[3].Data[6]++; return a },
		func(a []mem.Area) []mem.Area { a[3].Data = a[3].Data[:6]; return a },
		func(a []mem.Area) []mem.Area { return a[:len(a)-1] },
		func(a []mem.Area) []mem.Area { return append(a, mem.Area{}) },
		func(a []mem.Area) []mem.Area { a[5].Lo++; return a },
	} {
		if o := mem.New(change(areas())...); m.Same(o) || o.Same(m) {
			t.Error("change", k)
		}
	}
	if m.Same(nil) {
		t.Error("nil memory is the same")
	}
}

// P9.4: what is returned is the caller's own.
func TestAreas(t *testing.T) {
	m := mem.New(areas()...)
	m.Store(0, 16, 1, 99)
	l := m.Areas()
	if !same(l, areas()) {
		t.Error("Areas tells of a buffer", l)
	}
	l[0].Data[0] = 55
	_ = append(l[1].Data, 77)
	l[2] = mem.Area{}
	if !same(m.Areas(), areas()) {
		t.Error("Areas shares its bytes", m.Areas())
	}
	c := m.Copy()
	if c.Pending(0) != 1 || c.Flush(0) != 1 || m.Pending(0) != 1 || !same(m.Areas(), areas()) {
		t.Error("a copy shares its bytes")
	}
	for range 3 {
		m.Store(0, 17, 1, 4)
		c.Store(0, 17, 1, 5)
	}
	is(t, m, 0, 16, 2, 0x0463)
	is(t, c, 0, 16, 2, 0x0563)
}

// P9.5: a thread reads what it stored, also when it is drained, until another thread's store comes to memory.
func TestOwnStores(t *testing.T) {
	m := zeros(0, 8)
	m.Store(0, 0, 4, 10)
	m.Store(1, 0, 4, 20)
	is(t, m, 0, 0, 4, 10)
	m.Drain(1) // before the thread's own store
	is(t, m, 0, 0, 4, 10)
	m.Drain(0)
	is(t, m, 0, 0, 4, 10)
	is(t, m, 1, 0, 4, 10)
	m.Store(1, 0, 4, 30)
	is(t, m, 0, 0, 4, 10)
	m.Drain(1)
	is(t, m, 0, 0, 4, 30)
}

// P9.6: the stores of one thread reach memory in their order, whatever other threads do.
func TestOrder(t *testing.T) {
	d := &dice{3}
	m := zeros(0, 64)
	var stored, drained uint64
	for range 20000 {
		switch d.below(4) {
		case 0, 1:
			stored++
			m.Store(5, stored%8*8, 8, stored)
		case 2:
			if m.Drain(5) {
				drained++
			}
		case 3:
			m.Store(6, 0, 1, 0)
		}
		if m.Pending(5) != int(stored-drained) {
			t.Fatal("Pending", m.Pending(5))
		}
		// Memory holds exactly the last of the drained stores at each address.
		for k := range min(drained, 8) {
			is(t, m, 7, (drained-k)%8*8, 8, drained-k)
		}
	}
}

// P9.7: what returns false changes nothing: no store, no drained buffer.
func TestFalse(t *testing.T) {
	m := mem.New(areas()...)
	m.Own(1, 2)
	m.Store(0, 16, 1, 99)
	m.Store(1, 31, 1, 98)
	before, c := m.Areas(), m.Copy()
	for _, f := range []func(t int) bool{
		func(t int) bool { return m.Store(t, 25, 2, 1) },
		func(t int) bool { return m.Put(t, 25, 2, 1) },
		func(t int) bool { return m.Put(t, 0, 3, 1) },
		func(t int) bool { return m.Put(t, all, 8, 1) },
		func(t int) bool { return m.Store(t, 44, 1, 1) },
		func(t int) bool { return m.Own(t, 2) },
		func(t int) bool { return m.Own(t, 7) },
	} {
		for n := range 8 {
			if f(n) {
				t.Error("true for thread", n)
			}
		}
		if m.Pending(0) != 1 || m.Pending(1) != 1 || !same(m.Areas(), before) || !m.Same(c) {
			t.Error("changed")
		}
		is(t, m, 0, 16, 2, 0x0263)
		is(t, m, 1, 31, 2, 0x1162)
	}
	if m.Drain(2) || !same(m.Areas(), before) {
		t.Error("Drain of no stores")
	}
}

// tellsNothing fails the test unless memory has nothing for a thread.
func tellsNothing(t *testing.T, m *mem.Mem, n int) {
	t.Helper()
	if v, ok := m.Load(n, 16, 1); v != 0 || ok {
		t.Error("Load", n)
	}
	if m.May(n, 16, 1, false) || m.Store(n, 16, 1, 1) || m.Put(n, 16, 1, 1) || m.Drain(n) || m.Own(n, 2) || m.Own(n, 0) {
		t.Error("true for", n)
	}
	if m.Flush(n) != 0 || m.Pending(n) != 0 {
		t.Error("stores of", n)
	}
}

// Nil memory, and threads that there are not.
func TestNone(t *testing.T) {
	m := mem.New(areas()...)
	m.Store(0, 16, 1, 1)
	m.Store(7, 16, 1, 1)
	for _, n := range noThreads {
		tellsNothing(t, m, n)
	}
	if m.Pending(0) != 1 || m.Pending(7) != 1 || !same(m.Areas(), areas()) {
		t.Error("changed by threads that there are not")
	}
	var none *mem.Mem
	for n := -1; n < 9; n++ {
		tellsNothing(t, none, n)
	}
	if b, ok := none.Byte(16); b != 0 || ok {
		t.Error("Byte")
	}
	if len(none.Areas()) != 0 || none.Copy() != nil || none.Same(none) || none.Same(m) {
		t.Error("nil memory")
	}
}
