package asem_test

import (
	"math"
	"testing"

	"calque/a64"
	"calque/api"
	"calque/asem"
	"calque/mem"
)

const number = 0x8182838485868788

// P22.2: what instructions ask of memory.
func TestNeed(t *testing.T) {
	low := map[int]uint64{1: 0x88, 2: 0x8788, 4: 0x85868788, 8: number}
	for w, v := range low {
		c := asem.Cpu{Pc: 100, X: [31]uint64{number, 1000, 7}, Mark: asem.Access{Load: true}}
		before := c
		far := uint64(4095 * w)
		for _, x := range []struct {
			i    a64.Inst
			want asem.Access
		}{
			{a64.Inst{Op: a64.Ldr, W: w, D: 0, N: 1}, asem.Access{Load: true, At: 1000, W: w}},
			{a64.Inst{Op: a64.Ldr, W: w, D: 0, N: 1, Imm: far}, asem.Access{Load: true, At: 1000 + far, W: w}},
			{a64.Inst{Op: a64.Ldapr, W: w, D: 0, N: 1}, asem.Access{Load: true, Acq: true, At: 1000, W: w}},
			{a64.Inst{Op: a64.Ldaxr, W: w, D: 0, N: 1}, asem.Access{Load: true, Ex: true, Acq: true, At: 1000, W: w}},
			{a64.Inst{Op: a64.Str, W: w, D: 0, N: 1}, asem.Access{Store: true, At: 1000, V: v, W: w}},
			{a64.Inst{Op: a64.Str, W: w, D: 31, N: 1, Imm: far}, asem.Access{Store: true, At: 1000 + far, W: w}},
			{a64.Inst{Op: a64.Str, W: w, D: 0, N: 0, Imm: far}, asem.Access{Store: true, At: number + far, V: v, W: w}},
			{a64.Inst{Op: a64.Stlr, W: w, D: 0, N: 1}, asem.Access{Store: true, Rel: true, At: 1000, V: v, W: w}},
			{a64.Inst{Op: a64.Stlxr, W: w, D: 0, N: 1, M: 2}, asem.Access{Store: true, Ex: true, Rel: true, At: 1000, V: v, W: w}},
		} {
			if got := c.Need(x.i); got != x.want || c != before {
				t.Errorf("Need(%s) = %+v, want %+v", a64.Show(x.i), got, x.want)
			}
		}
	}
	c := asem.Cpu{X: [31]uint64{1: math.MaxUint64}}
	if got := c.Need(a64.Inst{Op: a64.Ldr, W: 8, N: 1, Imm: 16}); got.At != 15 {
		t.Errorf("an address beyond the last one is %X", got.At)
	}
}

// P22.2: what a load, and an exclusive one, does to the registers.
func TestLoaded(t *testing.T) {
	low := map[int]uint64{1: 0x88, 2: 0x8788, 4: 0x85868788, 8: number}
	mark := asem.Access{Load: true, At: 5, W: 1}
	for w, v := range low {
		for _, op := range []int{a64.Ldr, a64.Ldapr, a64.Ldaxr} {
			for _, d := range []int{0, 1, 31} {
				c := asem.Cpu{Pc: 100, X: [31]uint64{all, 1000, 7}, Mark: mark}
				want := c
				want.Set(d, v)
				want.Pc = 104
				if op == a64.Ldaxr {
					want.Mark = asem.Access{Load: true, Ex: true, Acq: true, At: 1000, W: w}
				}
				i := a64.Inst{Op: op, W: w, D: d, N: 1}
				if end := c.Done(i, number, false); end != api.Runs || c != want {
					t.Errorf("Done(%s) = %d: %+v, want %+v", a64.Show(i), end, c, want)
				}
			}
		}
	}
}

// P22.2: what stores do to the registers.
func TestStored(t *testing.T) {
	mark := asem.Access{Load: true, At: 5, W: 1}
	for _, op := range []int{a64.Str, a64.Stlr} {
		for _, ok := range []bool{false, true} {
			c := asem.Cpu{Pc: 100, X: [31]uint64{all, 1000, 7}, Mark: mark}
			want := c
			want.Pc = 104
			if end := c.Done(a64.Inst{Op: op, W: 4, D: 0, N: 1}, 5, ok); end != api.Runs || c != want {
				t.Errorf("operation %d ends with %d: %+v", op, end, c)
			}
		}
	}
	for _, ok := range []bool{false, true} {
		for _, m := range []int{2, 31} {
			c := asem.Cpu{Pc: 100, X: [31]uint64{all, 1000, 7}, Mark: mark}
			want := c
			want.Pc, want.Mark = 104, asem.Access{}
			want.Set(m, 1)
			if ok {
				want.Set(m, 0)
			}
			if end := c.Done(a64.Inst{Op: a64.Stlxr, W: 4, D: 0, N: 1, M: m}, 5, ok); end != api.Runs || c != want {
				t.Errorf("stlxr, %t, ends with %d: %+v, want %+v", ok, end, c, want)
			}
		}
	}
}

// area is memory with 64 bytes from 1000 on that may be written, and 8 behind them that may not.
func area() *mem.Mem {
	return mem.New(mem.Area{Lo: 1000, Data: make([]byte, 64), Write: true}, mem.Area{Lo: 1064, Data: []byte{1, 2, 3, 4, 5, 6, 7, 8}})
}

// is checks the number that a thread sees.
func is(t *testing.T, m *mem.Mem, thread int, at uint64, w int, want uint64) {
	t.Helper()
	if v, ok := m.Load(thread, at, w); v != want || !ok {
		t.Errorf("thread %d sees %X, %t at %d, want %X", thread, v, ok, at, want)
	}
}

// P22.3: a load reads what the thread sees, and a store reaches memory at once, behind the thread's stores.
func TestStep(t *testing.T) {
	m := area()
	m.Store(0, 1000, 8, number)
	for thread, want := range []uint64{0x85868788, 0} {
		c := asem.Cpu{X: [31]uint64{1: 992}}
		if end := c.Step(thread, a64.Inst{Op: a64.Ldr, W: 4, D: 2, N: 1, Imm: 8}, m, true); end != api.Runs || c.X[2] != want || c.Pc != 4 {
			t.Errorf("thread %d loads %X, %d", thread, c.X[2], end)
		}
	}
	if m.Pending(0) != 1 {
		t.Error("a load drains the buffer")
	}
	c := asem.Cpu{X: [31]uint64{1: 1000, 2: 0xFFFF}}
	if end := c.Step(0, a64.Inst{Op: a64.Str, W: 1, D: 2, N: 1}, m, true); end != api.Runs || m.Pending(0) != 0 {
		t.Errorf("str ends with %d", end)
	}
	is(t, m, 1, 1000, 8, number|0xFF)
	if end := c.Step(0, a64.Inst{Op: a64.Stlr, W: 2, D: 31, N: 1}, m, true); end != api.Runs {
		t.Errorf("stlr ends with %d", end)
	}
	is(t, m, 1, 1000, 8, number&^0xFFFF)
	if end := c.Step(0, a64.Inst{Op: a64.Ldapr, W: 8, D: 1, N: 1}, m, false); end != api.Runs || c.X[1] != number&^0xFFFF {
		t.Errorf("ldapr ends with %d: %X", end, c.X[1])
	}
	m.Store(1, 1008, 8, 5)
	if end := c.Step(1, a64.Inst{Op: a64.Dmb, W: 8, Imm: a64.Ish}, m, false); end != api.Runs || m.Pending(1) != 1 {
		t.Errorf("dmb ends with %d", end)
	}
	pc := c.Pc
	if end := c.Step(1, a64.Inst{Op: a64.Brk, W: 8, Imm: 5}, m, false); end != api.Refuses || c.Pc != pc {
		t.Errorf("brk at %d ends with %d at %d", pc, end, c.Pc)
	}
	if end := c.Step(1, a64.Inst{Op: a64.Svc, W: 8, Imm: 5}, m, false); end != api.Calls || c.Pc != pc+4 {
		t.Errorf("svc at %d ends with %d at %d", pc, end, c.Pc)
	}
}

// P22.3: when an exclusive store stores.
func TestExclusive(t *testing.T) {
	full := asem.Access{Load: true, Ex: true, Acq: true, At: 1008, W: 4}
	for _, c := range []struct {
		what  string
		mark  asem.Access
		fails bool
		ok    bool
	}{
		{"after its load", full, false, true},
		{"after its load, but it fails", full, true, false},
		{"after a load that is not exclusive", asem.Access{Load: true, At: 1008, W: 4}, false, true},
		{"after a load with a number", asem.Access{Load: true, At: 1008, W: 4, V: 9}, false, true},
		{"without a load", asem.Access{}, false, false},
		{"without a load, and it fails", asem.Access{}, true, false},
		{"after no load", asem.Access{Ex: true, Acq: true, At: 1008, W: 4}, false, false},
		{"after a store", asem.Access{Store: true, Ex: true, At: 1008, W: 4}, false, false},
		{"after a load elsewhere", asem.Access{Load: true, Ex: true, Acq: true, At: 1012, W: 4}, false, false},
		{"after a load of fewer bytes", asem.Access{Load: true, Ex: true, Acq: true, At: 1008, W: 2}, false, false},
		{"after a load of more bytes", asem.Access{Load: true, Ex: true, Acq: true, At: 1008, W: 8}, false, false},
	} {
		m := area()
		m.Store(0, 1000, 8, 7)
		x := asem.Cpu{Pc: 100, X: [31]uint64{1: 1008, 2: number, 3: 55}, Mark: c.mark}
		want := x
		want.Pc, want.Mark, want.X[3] = 104, asem.Access{}, 1
		stored, waiting := uint64(0), 1
		if c.ok {
			want.X[3], stored, waiting = 0, 0x85868788, 0
		}
		if end := x.Step(0, a64.Inst{Op: a64.Stlxr, W: 4, D: 2, N: 1, M: 3}, m, c.fails); end != api.Runs || x != want {
			t.Errorf("%s: %d, %+v, want %+v", c.what, end, x, want)
		}
		is(t, m, 1, 1008, 8, stored)
		if m.Pending(0) != waiting {
			t.Errorf("%s: %d stores wait", c.what, m.Pending(0))
		}
	}
}

// P22.3: a pair of exclusive accesses, once more without a load in between.
func TestPair(t *testing.T) {
	m := area()
	c := asem.Cpu{X: [31]uint64{1: 1016, 2: 5}}
	load := a64.Inst{Op: a64.Ldaxr, W: 8, D: 4, N: 1}
	store := a64.Inst{Op: a64.Stlxr, W: 8, D: 2, N: 1, M: 3}
	c.Step(0, load, m, true)
	if want := (asem.Access{Load: true, Ex: true, Acq: true, At: 1016, W: 8}); c.Mark != want {
		t.Errorf("the mark is %+v", c.Mark)
	}
	c.Step(0, a64.Inst{Op: a64.Ldr, W: 8, D: 5, N: 1, Imm: 8}, m, false)
	c.Step(0, a64.Inst{Op: a64.Str, W: 8, D: 5, N: 1, Imm: 8}, m, false)
	c.Step(0, store, m, false)
	is(t, m, 1, 1016, 8, 5)
	if c.X[3] != 0 || c.Mark != (asem.Access{}) {
		t.Errorf("the first store: %d, %+v", c.X[3], c.Mark)
	}
	c.X[2] = 6
	c.Step(0, store, m, false)
	is(t, m, 1, 1016, 8, 5)
	if c.X[3] != 1 {
		t.Errorf("the second store: %d", c.X[3])
	}
	c.Step(0, load, m, false)
	c.Step(0, store, m, true)
	c.Step(0, store, m, false)
	is(t, m, 1, 1016, 8, 5)
	if c.X[3] != 1 || c.X[4] != 5 || c.Pc != 32 {
		t.Errorf("a store after one that failed: %+v", c)
	}
	c.X[6] = 1016
	c.Step(0, a64.Inst{Op: a64.Ldaxr, W: 4, D: 6, N: 6}, m, false)
	if c.X[6] != 5 || c.Mark.At != 1016 || c.Mark.W != 4 {
		t.Errorf("a load over its address: %+v", c)
	}
}

// P22.3: accesses that are not allowed do nothing; of exclusive stores too, whether they fail or not.
func TestFaults(t *testing.T) {
	loads, stores := []int{a64.Ldr, a64.Ldapr, a64.Ldaxr}, []int{a64.Str, a64.Stlr, a64.Stlxr}
	check := func(ops []int, thread int, at uint64, w int, m *mem.Mem, want int) {
		t.Helper()
		for _, op := range ops {
			for _, fails := range []bool{false, true} {
				c := asem.Cpu{Pc: 100, X: [31]uint64{1: at, 2: number}, Mark: asem.Access{Load: true, At: at, W: w}}
				before := c
				i := a64.Inst{Op: op, W: w, D: 2, N: 1}
				if op == a64.Stlxr {
					i.M = 3
				}
				waiting := m.Pending(0)
				end := c.Step(thread, i, m, fails)
				if end != want || end != api.Runs && (c != before || m.Pending(0) != waiting) {
					t.Errorf("%s at %d ends with %d, want %d: %+v", a64.Show(i), at, end, want, c)
				}
			}
		}
	}
	for _, w := range []int{1, 2, 4, 8} {
		m := area()
		m.Store(0, 1000, 8, 7)
		check(loads, 0, 999, w, m, api.FaultMem)
		check(stores, 0, 999, w, m, api.FaultMem)
		check(loads, 0, 1072-uint64(w), w, m, api.Runs)
		check(loads, 0, 1073-uint64(w), w, m, api.FaultMem)
		check(stores, 0, 1065-uint64(w), w, m, api.FaultMem)
		check(stores, 0, 1068, w, m, api.FaultMem)
		check(loads, 8, 1000, w, m, api.FaultMem)
		check(stores, -1, 1000, w, m, api.FaultMem)
		check(loads, 0, 1000, w, nil, api.FaultMem)
		check(stores, 0, 1000, w, nil, api.FaultMem)
		is(t, m, 0, 1000, 8, 7)
		is(t, m, 1, 1000, 8, 0)
		check(stores, 0, 1064-uint64(w), w, m, api.Runs)
		own := mem.New(mem.Area{Lo: 1000, Data: make([]byte, 8), Write: true, Private: true})
		own.Own(1, 0)
		check(loads, 0, 1000, w, own, api.FaultMem)
		check(stores, 0, 1000, w, own, api.FaultMem)
		check(loads, 1, 1000, w, own, api.Runs)
		check(stores, 1, 1000, w, own, api.Runs)
		end := mem.New(mem.Area{Lo: all - 15, Data: make([]byte, 32), Write: true})
		check(loads, 0, all-uint64(w)+1, w, end, api.Runs)
		check(stores, 0, all-uint64(w)+2, w, end, behind(w))
	}
	c := asem.Cpu{}
	if end := c.Step(99, a64.Inst{Op: a64.Nop, W: 8}, nil, false); end != api.Runs || c.Pc != 4 {
		t.Errorf("nop by no thread without memory ends with %d", end)
	}
}

// behind is how an access ends whose last byte is behind the last address: only one of a single byte has none before it.
func behind(w int) int {
	if w == 1 {
		return api.Runs
	}
	return api.FaultMem
}
