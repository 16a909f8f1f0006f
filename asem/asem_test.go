package asem_test

import (
	"math"
	"slices"
	"testing"

	"calque/a64"
	"calque/api"
	"calque/asem"
	"calque/mem"
)

const (
	all  = math.MaxUint64
	high = 1 << 63
)

// wrong are instructions that are not valid.
var wrong = []a64.Inst{
	{},
	{Op: a64.Add},
	{Op: a64.Add, W: 4, D: 1},
	{Op: -1, W: 8},
	{Op: a64.Nop + 1, W: 8},
	{Op: math.MaxInt, W: 8},
	{Op: math.MinInt, W: math.MinInt},
	{Op: a64.AddI, W: 8, D: 31, N: 1},
	{Op: a64.AddI, W: 8, D: 1, N: 1, Imm: 4096},
	{Op: a64.Add, W: 8, D: 32},
	{Op: a64.Add, W: 8, D: -1},
	{Op: a64.Add, W: 8, S: 64},
	{Op: a64.Add, W: 8, S: -1},
	{Op: a64.AndI, W: 8, D: 1, Imm: 5},
	{Op: a64.Movz, W: 8, S: 4},
	{Op: a64.Ubfm, W: 8, R: 64},
	{Op: a64.Sbfm, W: 8, S: -1},
	{Op: a64.Csel, W: 8, Cond: 16},
	{Op: a64.Ldr, W: 3, N: 1},
	{Op: a64.Ldr, W: 8, N: 31},
	{Op: a64.Ldr, W: 8, N: 1, Imm: 4},
	{Op: a64.Ldaxr, W: 8, N: 1, Imm: 8},
	{Op: a64.Str, W: 0, N: 1},
	{Op: a64.Stlxr, W: 8, D: 1, N: 2, M: 1},
	{Op: a64.Stlxr, W: 8, D: 1, N: 2, M: 2},
	{Op: a64.Dmb, W: 8},
	{Op: a64.B, W: 8, Off: 2},
	{Op: a64.Bcc, W: 8, Off: math.MinInt64},
	{Op: a64.Cbz, W: 8, D: 99},
	{Op: a64.Br, W: 8, N: 32},
	{Op: a64.Svc, W: 8, Imm: 65536},
	{Op: a64.Brk, W: 8, D: 1},
	{Op: a64.Nop, W: 8, Imm: 1},
}

// P22.1: registers.
func TestGetSet(t *testing.T) {
	c := &asem.Cpu{}
	for r := range 31 {
		c.Set(r, uint64(r)+100)
	}
	for r := range 31 {
		if got := c.Get(r); got != uint64(r)+100 || c.X[r] != got {
			t.Errorf("register %d is %d", r, got)
		}
	}
	before := *c
	for _, r := range []int{math.MinInt, -1, 31, 32, 64, math.MaxInt} {
		c.Set(r, 7)
		if got := c.Get(r); got != 0 || *c != before {
			t.Errorf("register %d is %d", r, got)
		}
	}
}

// P22.1: all conditions of all flags.
func TestHolds(t *testing.T) {
	for k := range 16 {
		f := asem.Flags{N: k&8 != 0, Z: k&4 != 0, C: k&2 != 0, V: k&1 != 0}
		for cond, want := range conditions(f) {
			if got := f.Holds(cond); got != want {
				t.Errorf("%+v: Holds(%d) = %t", f, cond, got)
			}
			if got := (&asem.Cpu{Flags: f}).Holds(cond); got != want {
				t.Errorf("a cpu with %+v: Holds(%d) = %t", f, cond, got)
			}
		}
		for _, cond := range []int{math.MinInt, -16, -2, -1, 16, 17, 30, math.MaxInt} {
			if f.Holds(cond) {
				t.Errorf("%+v: Holds(%d)", f, cond)
			}
		}
	}
}

// value is an operation with N 1, M 2, A 3 and D 4, its registers, and what D is then.
type value struct {
	i          a64.Inst
	n, m, a, d uint64
	want       uint64
}

// run executes an instruction with the registers of a value.
func (v value) run() (asem.Cpu, int) {
	c := asem.Cpu{Pc: 100}
	c.X[1], c.X[2], c.X[3], c.X[4] = v.n, v.m, v.a, v.d
	end := c.Done(v.i, 0, true)
	return c, end
}

// of is an instruction of three registers.
func of(op int) a64.Inst {
	return a64.Inst{Op: op, W: 8, D: 4, N: 1, M: 2}
}

// by is an instruction of three registers with a shift.
func by(op, s int) a64.Inst {
	i := of(op)
	i.S = s
	return i
}

// num is an instruction of two registers and a number.
func num(op int, n uint64) a64.Inst {
	return a64.Inst{Op: op, W: 8, D: 4, N: 1, Imm: n}
}

// sum is an instruction of four registers.
func sum(op int) a64.Inst {
	i := of(op)
	i.A = 3
	return i
}

// cut is a field of bits.
func cut(op, r, s int) a64.Inst {
	return a64.Inst{Op: op, W: 8, D: 4, N: 1, R: r, S: s}
}

// part is a Movz, Movn or Movk.
func part(op int, n uint64, s int) a64.Inst {
	return a64.Inst{Op: op, W: 8, D: 4, Imm: n, S: s}
}

// P22.2: numbers by hand, of all operations that change D alone.
func TestValues(t *testing.T) {
	const x = 0x8123456789ABCDEF
	for _, v := range []value{
		{i: num(a64.AddI, 4095), n: all, want: 4094},
		{i: num(a64.SubI, 1), n: 0, want: all},
		{i: of(a64.Add), n: all, m: 2, want: 1},
		{i: by(a64.Add, 63), n: 5, m: 3, want: high + 5},
		{i: of(a64.Sub), n: 2, m: 3, want: all},
		{i: by(a64.Sub, 4), n: 33, m: 2, want: 1},
		{i: of(a64.And), n: 12, m: 10, want: 8},
		{i: of(a64.Orr), n: 12, m: 10, want: 14},
		{i: of(a64.Eor), n: 12, m: 10, want: 6},
		{i: by(a64.And, 1), n: 12, m: 2, want: 4},
		{i: by(a64.Orr, 8), n: 1, m: 1, want: 257},
		{i: by(a64.Eor, 1), n: 1, m: x, want: x<<1&all ^ 1},
		{i: num(a64.AndI, 255), n: x, want: 0xEF},
		{i: num(a64.OrrI, high), n: 1, want: high + 1},
		{i: num(a64.EorI, 0x5555555555555555), n: all, want: 0xAAAAAAAAAAAAAAAA},
		{i: part(a64.Movz, 0xABCD, 2), d: all, want: 0xABCD00000000},
		{i: part(a64.Movn, 0, 3), d: 5, want: all},
		{i: part(a64.Movn, 0xFFFF, 1), d: 5, want: 0xFFFFFFFF0000FFFF},
		{i: part(a64.Movk, 0xABCD, 0), d: x, want: 0x8123456789ABABCD},
		{i: part(a64.Movk, 0, 3), d: x, want: 0x0000456789ABCDEF},
		{i: sum(a64.Madd), n: 3, m: 4, a: 5, want: 17},
		{i: sum(a64.Madd), n: all, m: all, a: all, want: 0},
		{i: sum(a64.Msub), n: 3, m: 4, a: 5, want: all - 6},
		{i: of(a64.Umulh), n: all, m: all, want: all - 1},
		{i: of(a64.Smulh), n: all, m: all, want: 0},
		{i: of(a64.Smulh), n: high, m: 2, want: all},
		{i: of(a64.Umulh), n: high, m: 2, want: 1},
		{i: of(a64.Udiv), n: all, m: 2, want: all / 2},
		{i: of(a64.Udiv), n: 7, m: 0, want: 0},
		{i: of(a64.Udiv), n: high, m: all, want: 0},
		{i: of(a64.Sdiv), n: all - 6, m: 2, want: all - 2},
		{i: of(a64.Sdiv), n: 7, m: all - 1, want: all - 2},
		{i: of(a64.Sdiv), n: 7, m: 0, want: 0},
		{i: of(a64.Sdiv), n: all, m: 0, want: 0},
		{i: of(a64.Sdiv), n: high, m: all, want: high},
		{i: of(a64.Sdiv), n: high, m: 1, want: high},
		{i: of(a64.Lslv), n: 3, m: 63, want: high},
		{i: of(a64.Lslv), n: 3, m: 64, want: 3},
		{i: of(a64.Lsrv), n: high, m: 63, want: 1},
		{i: of(a64.Lsrv), n: high, m: 65, want: high / 2},
		{i: of(a64.Asrv), n: high, m: 63, want: all},
		{i: of(a64.Asrv), n: high, m: all, want: all},
		{i: of(a64.Asrv), n: high, m: 128, want: high},
		{i: of(a64.Rorv), n: 1, m: 1, want: high},
		{i: of(a64.Rorv), n: 1, m: 64, want: 1},
		{i: of(a64.Rorv), n: x, m: 8, want: 0xEF8123456789ABCD},
		{i: of(a64.Rorv), n: x, m: all, want: x<<1&all | 1},
		{i: cut(a64.Ubfm, 0, 7), n: x, want: 0xEF},
		{i: cut(a64.Sbfm, 0, 7), n: x, want: all - 0x10},
		{i: cut(a64.Ubfm, 0, 63), n: x, want: x},
		{i: cut(a64.Sbfm, 0, 63), n: x, want: x},
		{i: cut(a64.Ubfm, 60, 63), n: x, want: 8},
		{i: cut(a64.Sbfm, 60, 63), n: x, want: all - 7},
		{i: cut(a64.Ubfm, 63, 63), n: x, want: 1},
		{i: cut(a64.Sbfm, 63, 63), n: x, want: all},
		{i: cut(a64.Ubfm, 8, 15), n: x, want: 0xCD},
		{i: cut(a64.Sbfm, 8, 14), n: x, want: all - 0x32},
		{i: cut(a64.Ubfm, 63, 62), n: x, want: x << 1 & all},
		{i: cut(a64.Ubfm, 1, 0), n: x, want: high},
		{i: cut(a64.Sbfm, 1, 0), n: x, want: high},
		{i: cut(a64.Sbfm, 63, 0), n: 1, want: all - 1},
		{i: cut(a64.Ubfm, 56, 7), n: x, want: 0xEF00},
		{i: cut(a64.Sbfm, 56, 7), n: x, want: all - 0x10FF},
		{i: cut(a64.Sbfm, 56, 7), n: 0x17F, want: 0x7F00},
	} {
		c, end := v.run()
		if c.X[4] != v.want || end != api.Runs {
			t.Errorf("%s with %X %X %X %X is %X, %d, want %X", a64.Show(v.i), v.n, v.m, v.a, v.d, c.X[4], end, v.want)
		}
		c.X[4] = v.d
		if rest := (asem.Cpu{X: [31]uint64{0, v.n, v.m, v.a, v.d}, Pc: 104}); c != rest {
			t.Errorf("%s changes %+v", a64.Show(v.i), c)
		}
	}
}

// P22.2: flags by hand, N first, with the document's example.
func TestFlags(t *testing.T) {
	for _, c := range []struct {
		i     a64.Inst
		n, m  uint64
		want  uint64
		flags string
	}{
		{i: of(a64.Subs), n: 5, m: 5, want: 0, flags: ".ZC."},
		{i: of(a64.Subs), n: 5, m: 6, want: all, flags: "N..."},
		{i: of(a64.Subs), n: high, m: 1, want: high - 1, flags: "..CV"},
		{i: of(a64.Subs), n: 0, m: high, want: high, flags: "N..V"},
		{i: by(a64.Subs, 2), n: 9, m: 2, want: 1, flags: "..C."},
		{i: num(a64.SubsI, 5), n: 5, want: 0, flags: ".ZC."},
		{i: num(a64.SubsI, 1), n: 0, want: all, flags: "N..."},
		{i: num(a64.SubsI, 0), n: 0, want: 0, flags: ".ZC."},
		{i: of(a64.Adds), n: all, m: 1, want: 0, flags: ".ZC."},
		{i: of(a64.Adds), n: high, m: high, want: 0, flags: ".ZCV"},
		{i: of(a64.Adds), n: high - 1, m: 1, want: high, flags: "N..V"},
		{i: by(a64.Adds, 63), n: 1, m: 3, want: high + 1, flags: "N..."},
		{i: num(a64.AddsI, 1), n: all, want: 0, flags: ".ZC."},
		{i: num(a64.AddsI, 4095), n: 1, want: 4096, flags: "...."},
		{i: of(a64.Ands), n: high, m: all, want: high, flags: "N..."},
		{i: of(a64.Ands), n: 1, m: 2, want: 0, flags: ".Z.."},
		{i: by(a64.Ands, 1), n: 2, m: 3, want: 2, flags: "...."},
	} {
		for _, before := range []asem.Flags{{}, {N: true, Z: true, C: true, V: true}} {
			x := &asem.Cpu{Flags: before}
			x.X[1], x.X[2] = c.n, c.m
			end := x.Done(c.i, 0, false)
			want := asem.Flags{N: c.flags[0] == 'N', Z: c.flags[1] == 'Z', C: c.flags[2] == 'C', V: c.flags[3] == 'V'}
			if x.X[4] != c.want || x.Flags != want || end != api.Runs {
				t.Errorf("%s with %X %X is %X with %+v, want %X with %s", a64.Show(c.i), c.n, c.m, x.X[4], x.Flags, c.want, c.flags)
			}
		}
	}
}

// P22.2: choices, of all conditions.
func TestChoices(t *testing.T) {
	for k := range 16 {
		f := asem.Flags{N: k&8 != 0, Z: k&4 != 0, C: k&2 != 0, V: k&1 != 0}
		for cond := range 16 {
			for op, other := range map[int]uint64{a64.Csel: all, a64.Csinc: 0} {
				c := &asem.Cpu{Flags: f, X: [31]uint64{0, 7, all}}
				c.Done(a64.Inst{Op: op, W: 8, D: 4, N: 1, M: 2, Cond: cond}, 0, false)
				want := other
				if f.Holds(cond) {
					want = 7
				}
				if c.X[4] != want || c.Flags != f {
					t.Errorf("operation %d of %d with %+v is %X", op, cond, f, c.X[4])
				}
			}
		}
	}
}

// P22.2: where jumps lead, at the ends of the addresses too.
func TestJumps(t *testing.T) {
	zero, carry := asem.Flags{Z: true}, asem.Flags{C: true}
	for _, c := range []struct {
		i     a64.Inst
		f     asem.Flags
		x, at uint64
		want  uint64
	}{
		{i: a64.Inst{Op: a64.B, W: 8, Off: -4}, at: 100, want: 96},
		{i: a64.Inst{Op: a64.B, W: 8, Off: 8}, at: all - 3, want: 4},
		{i: a64.Inst{Op: a64.B, W: 8, Off: 0}, at: 100, want: 100},
		{i: a64.Inst{Op: a64.B, W: 8, Off: -8}, at: 4, want: all - 3},
		{i: a64.Inst{Op: a64.Bcc, W: 8, Off: 40, Cond: a64.Eq}, f: zero, at: 100, want: 140},
		{i: a64.Inst{Op: a64.Bcc, W: 8, Off: 40, Cond: a64.Eq}, f: carry, at: 100, want: 104},
		{i: a64.Inst{Op: a64.Bcc, W: 8, Off: -40, Cond: a64.Cs}, f: carry, at: 100, want: 60},
		{i: a64.Inst{Op: a64.Bcc, W: 8, Off: -40, Cond: 15}, at: 100, want: 60},
		{i: a64.Inst{Op: a64.Bcc, W: 8, Off: -40, Cond: a64.Ne}, f: zero, at: all - 3, want: 0},
		{i: a64.Inst{Op: a64.Cbz, W: 8, D: 1, Off: 40}, x: 0, at: 100, want: 140},
		{i: a64.Inst{Op: a64.Cbz, W: 8, D: 1, Off: 40}, x: high, at: 100, want: 104},
		{i: a64.Inst{Op: a64.Cbz, W: 8, D: 31, Off: 40}, x: 1, at: 100, want: 140},
		{i: a64.Inst{Op: a64.Cbnz, W: 8, D: 1, Off: 40}, x: 0, at: 100, want: 104},
		{i: a64.Inst{Op: a64.Cbnz, W: 8, D: 1, Off: 40}, x: 1 << 32, at: 100, want: 140},
		{i: a64.Inst{Op: a64.Cbnz, W: 8, D: 31, Off: 40}, x: 1, at: 100, want: 104},
		{i: a64.Inst{Op: a64.Br, W: 8, N: 1}, x: 7, at: 100, want: 7},
		{i: a64.Inst{Op: a64.Br, W: 8, N: 31}, x: 7, at: 100, want: 0},
		{i: a64.Inst{Op: a64.Nop, W: 8}, at: all - 3, want: 0},
		{i: a64.Inst{Op: a64.Nop, W: 8}, at: 101, want: 105},
		{i: a64.Inst{Op: a64.Dmb, W: 8, Imm: a64.Ish}, at: 100, want: 104},
		{i: a64.Inst{Op: a64.Dmb, W: 8, Imm: a64.Ld}, at: 100, want: 104},
		{i: a64.Inst{Op: a64.Dmb, W: 8, Imm: a64.St}, at: 100, want: 104},
	} {
		x := asem.Cpu{Flags: c.f, Pc: c.at, Mark: asem.Access{Load: true, At: 3}}
		x.X[1] = c.x
		want := x
		want.Pc = c.want
		if end := x.Done(c.i, 5, true); end != api.Runs || x != want {
			t.Errorf("%s at %X with %X ends with %d at %X, want %X", a64.Show(c.i), c.at, c.x, end, x.Pc, c.want)
		}
	}
}

// P22.2: how Svc and Brk end, and where: Svc behind itself, Brk at itself. They change nothing else.
func TestEnds(t *testing.T) {
	for n := range uint64(65536) {
		told := api.FaultUd
		if n >= 1 && n <= 6 {
			told = int(n)
		}
		for _, e := range []struct {
			op, want int
			at, pc   uint64
		}{
			{a64.Svc, api.Calls, 100, 104},
			{a64.Svc, api.Calls, 0, 4},
			{a64.Svc, api.Calls, all - 3, 0},
			{a64.Brk, told, 100, 100},
			{a64.Brk, told, 0, 0},
			{a64.Brk, told, all - 3, all - 3},
		} {
			c := asem.Cpu{Pc: e.at, X: [31]uint64{1, 2, 3}, Mark: asem.Access{Load: true, At: 3}}
			want := c
			want.Pc = e.pc
			if end := c.Done(a64.Inst{Op: e.op, W: 8, Imm: n}, 5, true); end != e.want || c != want {
				t.Fatalf("operation %d of %d ends with %d: %+v, want %d: %+v", e.op, n, end, c, e.want, want)
			}
		}
	}
}

// P22.2: instructions that are not valid do nothing; P22.3, too.
func TestWrong(t *testing.T) {
	for _, i := range wrong {
		c := asem.Cpu{Pc: 100, X: [31]uint64{1, 2, 3}, Mark: asem.Access{Load: true, At: 3}}
		before := c
		m := mem.New(mem.Area{Data: make([]byte, 64), Write: true})
		m.Store(0, 8, 8, 5)
		if n := c.Need(i); n != (asem.Access{}) || c != before {
			t.Errorf("Need(%+v) = %+v", i, n)
		}
		if end := c.Done(i, 7, true); end != api.FaultUd || c != before {
			t.Errorf("Done(%+v) = %d", i, end)
		}
		if end := c.Step(0, i, m, false); end != api.FaultUd || c != before || m.Pending(0) != 1 {
			t.Errorf("Step of %+v = %d", i, end)
		}
	}
}

// On a nil cpu, Get returns 0, Set does nothing, Need returns no access, and Done and Step return FaultUd.
func TestNil(t *testing.T) {
	var c *asem.Cpu
	m := mem.New(mem.Area{Data: make([]byte, 64), Write: true})
	c.Set(3, 5)
	if got := c.Get(3); got != 0 {
		t.Errorf("Get = %d", got)
	}
	for _, i := range append(slices.Clone(wrong), a64.Inst{Op: a64.Ldr, W: 8, N: 1}, a64.Inst{Op: a64.Nop, W: 8}, a64.Inst{Op: a64.Stlxr, W: 8, M: 1, N: 2}) {
		if n := c.Need(i); n != (asem.Access{}) {
			t.Errorf("Need(%+v) = %+v", i, n)
		}
		if end := c.Done(i, 5, true); end != api.FaultUd {
			t.Errorf("Done(%+v) = %d", i, end)
		}
		if end := c.Step(0, i, m, false); end != api.FaultUd {
			t.Errorf("Step of %+v = %d", i, end)
		}
	}
}
