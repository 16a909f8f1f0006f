package sel_test

import (
	"math"
	"strings"
	"testing"

	"calque/a64"
	"calque/ir"
	"calque/sel"
)

const all = math.MaxUint64

// wrong are numbers of no register.
var wrong = []int{math.MinInt, -31, -1, 31, 32, 64, 1 << 32, math.MaxInt}

// text is the texts of instructions.
func text(l []a64.Inst) string {
	var s []string
	for _, i := range l {
		s = append(s, a64.Show(i))
	}
	return strings.Join(s, ", ")
}

// The registers that the document names.
func TestNumbers(t *testing.T) {
	for k, n := range []int{sel.First, 20, 21, 22, 23, sel.Last, sel.Third, sel.Spare, sel.Lo, sel.Size, sel.Spill, sel.Other} {
		if n != 19+k {
			t.Error(k, n)
		}
	}
}

// P23.1: which instructions a number takes, each rule at its edges.
func TestConst(t *testing.T) {
	for _, x := range []struct {
		d    int
		n    uint64
		want string
	}{
		{3, 65536, "movz x3 1 1"},
		// At most one part that is not 0.
		{0, 0, "movz x0 0 0"},
		{30, 1, "movz x30 1 0"},
		{7, 0xFFFF, "movz x7 65535 0"},
		{7, 0xFFFF << 16, "movz x7 65535 1"},
		{7, 0x8000 << 32, "movz x7 32768 2"},
		{7, 1 << 63, "movz x7 32768 3"},
		// At most one part that is not all ones.
		{1, all, "movn x1 0 0"},
		{1, all - 1, "movn x1 1 0"},
		{1, all - 7, "movn x1 7 0"},
		{1, 0xFFFF_FFFF_FFFF_0000, "movn x1 65535 0"},
		{1, 0xFFFF_FFFF_1234_FFFF, "movn x1 60875 1"},
		{1, 0xFFFF_0000_FFFF_FFFF, "movn x1 65535 2"},
		{1, math.MaxInt64, "movn x1 32768 3"},
		{1, 0x0001_FFFF_FFFF_FFFF, "movn x1 65534 3"},
		// The thirteen bits of a logical number, of Zr.
		{2, 0xFFFF_FFFF, "orri x2 x31 4294967295"},
		{2, 0x1_FFFF, "orri x2 x31 131071"},
		{2, 0x5555_5555_5555_5555, "orri x2 x31 6148914691236517205"},
		{2, 0x00FF_00FF_00FF_00FF, "orri x2 x31 71777214294589695"},
		{2, 0xFFFF_FFFF_0000_0001, "orri x2 x31 18446744069414584321"},
		{2, 0xFFFF_0000_0000_FFFF, "orri x2 x31 18446462598732906495"},
		{2, 0x0000_FFFF_0000_FFFF, "orri x2 x31 281470681808895"},
		// Movz of the lowest part, and Movk of the others.
		{4, 0x1_0002, "movz x4 2 0, movk x4 1 1"},
		{4, 0x5_0000_0006, "movz x4 6 0, movk x4 5 2"},
		{4, 0x7_0000_0000_0008, "movz x4 8 0, movk x4 7 3"},
		{4, 0x9_0000_000A_0000, "movz x4 10 1, movk x4 9 3"},
		{4, 0xB_000C_0000_0000, "movz x4 12 2, movk x4 11 3"},
		{4, 0x1_0002_0003, "movz x4 3 0, movk x4 2 1, movk x4 1 2"},
		{4, 0x1234_5678_9ABC_DEF0, "movz x4 57072 0, movk x4 39612 1, movk x4 22136 2, movk x4 4660 3"},
		{4, 0xFFFF_FFFF_0000_0005, "movz x4 5 0, movk x4 65535 2, movk x4 65535 3"},
		{4, 0xFFFF_1234_5678_FFFF, "movz x4 65535 0, movk x4 22136 1, movk x4 4660 2, movk x4 65535 3"},
	} {
		if got := text(sel.Const(x.d, x.n)); got != x.want {
			t.Errorf("%#x: %s, not %s", x.n, got, x.want)
		}
	}
	for _, d := range wrong {
		if l := sel.Const(d, 5); len(l) != 0 {
			t.Error("register", d, l)
		}
	}
}

// P23.2.
func TestMove(t *testing.T) {
	for _, x := range []struct{ d, n int }{{0, 30}, {30, 0}, {5, 5}, {19, 4}, {31, 1}, {1, 31}, {-1, 99}, {math.MaxInt, math.MinInt}} {
		if got, want := sel.Move(x.d, x.n), (a64.Inst{Op: a64.Orr, W: 8, D: x.d, N: a64.Zr, M: x.n}); got != want {
			t.Errorf("%+v", got)
		}
	}
	if s := a64.Show(sel.Move(3, 4)); s != "orr x3 x31 x4 0" {
		t.Error(s)
	}
}

// steps are steps with the instructions of each, for the value in register 20 of those in 1, 2 and 3.
func steps() map[ir.Op]string {
	const v, a, b, c = "x20", "x1", "x2", "x3"
	l := map[ir.Op]string{
		{Kind: ir.Const, N: 9}:                 "movz x20 9 0",
		{Kind: ir.Const, N: 0x1_0002}:          "movz x20 2 0, movk x20 1 1",
		{Kind: ir.Get}:                         "orr x20 x31 x0 0",
		{Kind: ir.Get, N: 18}:                  "orr x20 x31 x18 0",
		{Kind: ir.Put}:                         "orr x0 x31 x1 0",
		{Kind: ir.Put, N: 18}:                  "orr x18 x31 x1 0",
		{Kind: ir.Ext, W: 1}:                   "ubfm x20 x1 7 0",
		{Kind: ir.Ext, W: 2}:                   "ubfm x20 x1 15 0",
		{Kind: ir.Ext, W: 4}:                   "ubfm x20 x1 31 0",
		{Kind: ir.Ext, W: 8}:                   "ubfm x20 x1 63 0",
		{Kind: ir.Ext, W: 1, Signed: true}:     "sbfm x20 x1 7 0",
		{Kind: ir.Ext, W: 8, Signed: true}:     "sbfm x20 x1 63 0",
		{Kind: ir.Sel}:                         "subsi x31 x1 0, csel x20 x2 x3 1",
		{Kind: ir.Fence, F: ir.Full}:           "dmb 11",
		{Kind: ir.Fence, F: ir.Loads}:          "dmb 9",
		{Kind: ir.Fence, F: ir.Stores}:         "dmb 10",
		{Kind: ir.Load, W: 8}:                  "ldr.8 x20 x1 0",
		{Kind: ir.Load, W: 1}:                  "ldr.1 x20 x1 0",
		{Kind: ir.Load, W: 2, Ord: ir.Strong}:  "ldapr.2 x20 x1",
		{Kind: ir.Store, W: 4}:                 "str.4 x2 x1 0",
		{Kind: ir.Store, W: 8, Ord: ir.Strong}: "stlr.8 x2 x1",
		{Kind: ir.Lx, W: 4}:                    "ldaxr.4 x20 x1",
		{Kind: ir.Lx, W: 1}:                    "ldaxr.1 x20 x1",
		{Kind: ir.Alu, F: ir.Mul}:              "madd x20 x1 x2 x31",
		{Kind: ir.Alu, F: ir.Eq}:               "subs x31 x1 x2 0, csinc x20 x31 x31 1",
		{Kind: ir.Alu, F: ir.LtU}:              "subs x31 x1 x2 0, csinc x20 x31 x31 2",
		{Kind: ir.Alu, F: ir.LtS}:              "subs x31 x1 x2 0, csinc x20 x31 x31 10",
	}
	for f, name := range map[int]string{ir.Add: "add", ir.Sub: "sub", ir.And: "and", ir.Or: "orr", ir.Xor: "eor"} {
		l[ir.Op{Kind: ir.Alu, F: f}] = name + " x20 x1 x2 0"
	}
	for f, name := range map[int]string{ir.MulU: "umulh", ir.MulS: "smulh", ir.DivU: "udiv", ir.DivS: "sdiv", ir.Shl: "lslv", ir.Shr: "lsrv", ir.Sar: "asrv"} {
		l[ir.Op{Kind: ir.Alu, F: f}] = name + " x20 x1 x2"
	}
	return l
}

// P23.3: the instructions of each step.
func TestStep(t *testing.T) {
	for o, want := range steps() {
		l, ok := sel.Step(o, 20, 1, 2, 3)
		if got := text(l); !ok || got != want {
			t.Errorf("%+v: %s %v, not %s", o, got, ok, want)
		}
		// Which steps it uses does not matter, even if there can be none of these numbers.
		o.A, o.B, o.C = -5, math.MaxInt, 99
		if l, ok = sel.Step(o, 20, 1, 2, 3); !ok || text(l) != want {
			t.Errorf("%+v: %s %v, not %s", o, text(l), ok, want)
		}
	}
	// Example 1.
	if l, _ := sel.Step(ir.Op{Kind: ir.Alu, F: ir.Eq}, 0, 1, 2, 0); text(l) != "subs x31 x1 x2 0, csinc x0 x31 x31 1" {
		t.Error(text(l))
	}
}

// P23.3: the ends of the registers, and beyond them, at each place, whether the step uses it or not.
func TestStepRegisters(t *testing.T) {
	for o := range steps() {
		for place := range 4 {
			r := [4]int{5, 6, 7, 8}
			for _, n := range []int{0, 30} {
				r[place] = n
				l, ok := sel.Step(o, r[0], r[1], r[2], r[3])
				for _, i := range l {
					if ok = ok && a64.May(i); !ok {
						t.Errorf("%+v %v: %s", o, r, text(l))
					}
				}
				if len(l) == 0 || len(l) > 5 {
					t.Errorf("%+v %v: %d instructions", o, r, len(l))
				}
			}
			for _, n := range wrong {
				r[place] = n
				if l, ok := sel.Step(o, r[0], r[1], r[2], r[3]); ok || len(l) != 0 {
					t.Errorf("%+v %v: %s", o, r, text(l))
				}
			}
		}
	}
}

// P23.3: steps of other kinds, and steps that are not valid.
func TestStepNone(t *testing.T) {
	none := []ir.Op{
		{}, {Kind: -1}, {Kind: 14}, {Kind: math.MinInt}, {Kind: math.MaxInt},
		{Kind: ir.Sx, W: 8}, {Kind: ir.Trap, N: 2}, {Kind: ir.Skip, N: 100}, {Kind: ir.Skip},
		{Kind: ir.Get, N: 19}, {Kind: ir.Put, N: 19}, {Kind: ir.Get, N: all}, {Kind: ir.Put, N: 1 << 32},
		{Kind: ir.Alu}, {Kind: ir.Alu, F: 17}, {Kind: ir.Alu, F: -1}, {Kind: ir.Alu, F: math.MaxInt}, {Kind: ir.Alu, F: math.MinInt},
		{Kind: ir.Fence}, {Kind: ir.Fence, F: 4}, {Kind: ir.Fence, F: -1},
		{Kind: ir.Ext}, {Kind: ir.Ext, W: 3}, {Kind: ir.Ext, W: 16}, {Kind: ir.Ext, W: -8}, {Kind: ir.Ext, W: math.MaxInt},
		{Kind: ir.Load, W: 8, Ord: 2}, {Kind: ir.Store, W: 8, Ord: -1}, {Kind: ir.Load}, {Kind: ir.Store, W: 5},
		{Kind: ir.Lx}, {Kind: ir.Lx, W: 3}, {Kind: ir.Lx, W: 8, Ord: ir.Strong}, {Kind: ir.Lx, W: 8, N: 1},
	}
	// A field that a kind does not have makes any step invalid.
	for o := range steps() {
		p, q, r := o, o, o
		if p.F++; o.F == 0 {
			none = append(none, p)
		}
		if q.W++; o.W == 0 {
			none = append(none, q)
		}
		if r.Signed = true; o.Kind != ir.Ext {
			none = append(none, r)
		}
		if o.Kind != ir.Const && o.Kind != ir.Get && o.Kind != ir.Put {
			o.N = 1
			none = append(none, o)
		}
	}
	for _, o := range none {
		if l, ok := sel.Step(o, 1, 2, 3, 4); ok || len(l) != 0 {
			t.Errorf("%+v: %s", o, text(l))
		}
	}
}

// What a caller writes into a result changes no other one.
func TestNew(t *testing.T) {
	for _, o := range []ir.Op{{Kind: ir.Alu, F: ir.Eq}, {Kind: ir.Const, N: 0x1_0002}, {Kind: ir.Sel}, {Kind: ir.Fence, F: 1}} {
		l, _ := sel.Step(o, 1, 2, 3, 4)
		want := text(l)
		clear(l)
		l = append(l, a64.Inst{Op: a64.Nop, W: 8})
		if l, _ = sel.Step(o, 1, 2, 3, 4); text(l) != want {
			t.Errorf("%+v: %s, not %s", o, text(l), want)
		}
	}
}
