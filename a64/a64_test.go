package a64_test

import (
	"math"
	"slices"
	"testing"

	"calque/a64"
	"calque/api"
)

// known are instructions with the words that the manual of the architecture gives them, and their texts.
var known = []struct {
	i    a64.Inst
	word uint32
	text string
}{
	{a64.Inst{Op: a64.AddI, W: 8, D: 0, N: 1, Imm: 5}, 0x91001420, "addi x0 x1 5"},
	{a64.Inst{Op: a64.SubI, W: 8, D: 30, N: 2, Imm: 4095}, 0xD13FFC5E, "subi x30 x2 4095"},
	{a64.Inst{Op: a64.AddsI, W: 8, D: 31, N: 3, Imm: 1}, 0xB100047F, "addsi x31 x3 1"},
	{a64.Inst{Op: a64.SubsI, W: 8, D: 31, N: 0, Imm: 0}, 0xF100001F, "subsi x31 x0 0"},
	{a64.Inst{Op: a64.Add, W: 8, D: 0, N: 1, M: 2, S: 3}, 0x8B020C20, "add x0 x1 x2 3"},
	{a64.Inst{Op: a64.Sub, W: 8, D: 4, N: 31, M: 5}, 0xCB0503E4, "sub x4 x31 x5 0"},
	{a64.Inst{Op: a64.Adds, W: 8, D: 1, N: 1, M: 1, S: 63}, 0xAB01FC21, "adds x1 x1 x1 63"},
	{a64.Inst{Op: a64.Subs, W: 8, D: 31, N: 0, M: 1}, 0xEB01001F, "subs x31 x0 x1 0"},
	{a64.Inst{Op: a64.And, W: 8, D: 2, N: 3, M: 4}, 0x8A040062, "and x2 x3 x4 0"},
	{a64.Inst{Op: a64.Orr, W: 8, D: 0, N: 31, M: 1}, 0xAA0103E0, "orr x0 x31 x1 0"},
	{a64.Inst{Op: a64.Eor, W: 8, D: 9, N: 9, M: 9, S: 1}, 0xCA090529, "eor x9 x9 x9 1"},
	{a64.Inst{Op: a64.Ands, W: 8, D: 31, N: 7, M: 7}, 0xEA0700FF, "ands x31 x7 x7 0"},
	{a64.Inst{Op: a64.AndI, W: 8, D: 0, N: 1, Imm: 255}, 0x92401C20, "andi x0 x1 255"},
	{a64.Inst{Op: a64.OrrI, W: 8, D: 5, N: 31, Imm: 0x5555555555555555}, 0xB200F3E5, "orri x5 x31 6148914691236517205"},
	{a64.Inst{Op: a64.EorI, W: 8, D: 1, N: 2, Imm: 1 << 63}, 0xD2410041, "eori x1 x2 9223372036854775808"},
	{a64.Inst{Op: a64.Movz, W: 8, D: 3, Imm: 5, S: 1}, 0xD2A000A3, "movz x3 5 1"},
	{a64.Inst{Op: a64.Movn, W: 8, D: 0, Imm: 0}, 0x92800000, "movn x0 0 0"},
	{a64.Inst{Op: a64.Movk, W: 8, D: 31, Imm: 65535, S: 3}, 0xF2FFFFFF, "movk x31 65535 3"},
	{a64.Inst{Op: a64.Madd, W: 8, D: 0, N: 1, M: 2, A: 31}, 0x9B027C20, "madd x0 x1 x2 x31"},
	{a64.Inst{Op: a64.Msub, W: 8, D: 0, N: 1, M: 2, A: 3}, 0x9B028C20, "msub x0 x1 x2 x3"},
	{a64.Inst{Op: a64.Umulh, W: 8, D: 0, N: 1, M: 2}, 0x9BC27C20, "umulh x0 x1 x2"},
	{a64.Inst{Op: a64.Smulh, W: 8, D: 0, N: 1, M: 2}, 0x9B427C20, "smulh x0 x1 x2"},
	{a64.Inst{Op: a64.Udiv, W: 8, D: 0, N: 1, M: 2}, 0x9AC20820, "udiv x0 x1 x2"},
	{a64.Inst{Op: a64.Sdiv, W: 8, D: 0, N: 1, M: 2}, 0x9AC20C20, "sdiv x0 x1 x2"},
	{a64.Inst{Op: a64.Lslv, W: 8, D: 0, N: 1, M: 2}, 0x9AC22020, "lslv x0 x1 x2"},
	{a64.Inst{Op: a64.Lsrv, W: 8, D: 0, N: 1, M: 2}, 0x9AC22420, "lsrv x0 x1 x2"},
	{a64.Inst{Op: a64.Asrv, W: 8, D: 0, N: 1, M: 2}, 0x9AC22820, "asrv x0 x1 x2"},
	{a64.Inst{Op: a64.Rorv, W: 8, D: 31, N: 31, M: 31}, 0x9ADF2FFF, "rorv x31 x31 x31"},
	{a64.Inst{Op: a64.Ubfm, W: 8, D: 0, N: 1, R: 3, S: 63}, 0xD343FC20, "ubfm x0 x1 63 3"},
	{a64.Inst{Op: a64.Sbfm, W: 8, D: 0, N: 1, R: 0, S: 31}, 0x93407C20, "sbfm x0 x1 31 0"},
	{a64.Inst{Op: a64.Csel, W: 8, D: 0, N: 1, M: 2, Cond: a64.Eq}, 0x9A820020, "csel x0 x1 x2 0"},
	{a64.Inst{Op: a64.Csinc, W: 8, D: 0, N: 31, M: 31, Cond: a64.Ne}, 0x9A9F17E0, "csinc x0 x31 x31 1"},
	{a64.Inst{Op: a64.Ldr, W: 4, D: 0, N: 1, Imm: 8}, 0xB9400820, "ldr.4 x0 x1 8"},
	{a64.Inst{Op: a64.Ldr, W: 8, D: 0, N: 1, Imm: 8}, 0xF9400420, "ldr.8 x0 x1 8"},
	{a64.Inst{Op: a64.Ldr, W: 1, D: 31, N: 30, Imm: 4095}, 0x397FFFDF, "ldr.1 x31 x30 4095"},
	{a64.Inst{Op: a64.Str, W: 2, D: 2, N: 3, Imm: 8190}, 0x793FFC62, "str.2 x2 x3 8190"},
	{a64.Inst{Op: a64.Str, W: 8, D: 2, N: 3, Imm: 32760}, 0xF93FFC62, "str.8 x2 x3 32760"},
	{a64.Inst{Op: a64.Ldapr, W: 8, D: 0, N: 1}, 0xF8BFC020, "ldapr.8 x0 x1"},
	{a64.Inst{Op: a64.Ldapr, W: 1, D: 0, N: 1}, 0x38BFC020, "ldapr.1 x0 x1"},
	{a64.Inst{Op: a64.Stlr, W: 4, D: 0, N: 1}, 0x889FFC20, "stlr.4 x0 x1"},
	{a64.Inst{Op: a64.Ldaxr, W: 8, D: 0, N: 1}, 0xC85FFC20, "ldaxr.8 x0 x1"},
	{a64.Inst{Op: a64.Stlxr, W: 8, D: 0, N: 1, M: 2}, 0xC802FC20, "stlxr.8 x0 x1 x2"},
	{a64.Inst{Op: a64.Stlxr, W: 2, D: 31, N: 1, M: 0}, 0x4800FC3F, "stlxr.2 x31 x1 x0"},
	{a64.Inst{Op: a64.Dmb, W: 8, Imm: a64.Ish}, 0xD5033BBF, "dmb 11"},
	{a64.Inst{Op: a64.Dmb, W: 8, Imm: a64.Ld}, 0xD50339BF, "dmb 9"},
	{a64.Inst{Op: a64.Dmb, W: 8, Imm: a64.St}, 0xD5033ABF, "dmb 10"},
	{a64.Inst{Op: a64.B, W: 8, Off: -4}, 0x17FFFFFF, "b -4"},
	{a64.Inst{Op: a64.B, W: 8, Off: 1<<27 - 4}, 0x15FFFFFF, "b 134217724"},
	{a64.Inst{Op: a64.B, W: 8, Off: -1 << 27}, 0x16000000, "b -134217728"},
	{a64.Inst{Op: a64.Bcc, W: 8, Cond: a64.Eq, Off: 8}, 0x54000040, "bcc 0 8"},
	{a64.Inst{Op: a64.Bcc, W: 8, Cond: a64.Lt, Off: -1 << 20}, 0x5480000B, "bcc 11 -1048576"},
	{a64.Inst{Op: a64.Cbz, W: 8, D: 1, Off: 8}, 0xB4000041, "cbz x1 8"},
	{a64.Inst{Op: a64.Cbnz, W: 8, D: 31, Off: 1<<20 - 4}, 0xB57FFFFF, "cbnz x31 1048572"},
	{a64.Inst{Op: a64.Br, W: 8, N: 30}, 0xD61F03C0, "br x30"},
	{a64.Inst{Op: a64.Svc, W: 8, Imm: 0}, 0xD4000001, "svc 0"},
	{a64.Inst{Op: a64.Brk, W: 8, Imm: 65535}, 0xD43FFFE0, "brk 65535"},
	{a64.Inst{Op: a64.Nop, W: 8}, 0xD503201F, "nop"},
}

// P20.1: words and texts of all operations, by hand, with the document's examples.
func TestKnown(t *testing.T) {
	for _, c := range known {
		if !a64.May(c.i) {
			t.Errorf("May(%+v) is false", c.i)
		}
		if w, e := a64.Encode(c.i); w != c.word || e != api.OK {
			t.Errorf("Encode(%+v) = %08X, %d, want %08X", c.i, w, e, c.word)
		}
		if s := a64.Show(c.i); s != c.text {
			t.Errorf("Show(%+v) = %q, want %q", c.i, s, c.text)
		}
	}
}

// wrong checks that an instruction is not valid.
func wrong(t *testing.T, i a64.Inst) {
	t.Helper()
	if a64.May(i) {
		t.Errorf("May(%+v) is true", i)
	}
	if w, e := a64.Encode(i); w != 0 || e != api.ErrArg {
		t.Errorf("Encode(%+v) = %08X, %d, want ErrArg", i, w, e)
	}
	if s := a64.Show(i); s != "?" {
		t.Errorf("Show(%+v) = %q, want a question mark", i, s)
	}
}

// P20.1: fields at and beyond the ends of their ranges.
func TestRanges(t *testing.T) {
	for _, c := range []struct {
		i  a64.Inst
		ok bool
	}{
		{a64.Inst{Op: a64.AddI, W: 8, D: 30, N: 30, Imm: 4095}, true},
		{a64.Inst{Op: a64.AddI, W: 8, D: 30, N: 30, Imm: 4096}, false},
		{a64.Inst{Op: a64.AddI, W: 8, D: 31, N: 30}, false},
		{a64.Inst{Op: a64.SubI, W: 8, D: 31, N: 30}, false},
		{a64.Inst{Op: a64.AddI, W: 8, D: 30, N: 31}, false},
		{a64.Inst{Op: a64.SubI, W: 8, D: 30, N: 31}, false},
		{a64.Inst{Op: a64.AddsI, W: 8, D: 31, N: 31}, false},
		{a64.Inst{Op: a64.SubsI, W: 8, D: 31, N: 31}, false},
		{a64.Inst{Op: a64.SubsI, W: 8, D: 32, N: 30}, false},
		{a64.Inst{Op: a64.Add, W: 8, D: 31, N: 31, M: 31, S: 63}, true},
		{a64.Inst{Op: a64.Add, W: 8, D: 31, N: 31, M: 31, S: 64}, false},
		{a64.Inst{Op: a64.Add, W: 8, S: -1}, false},
		{a64.Inst{Op: a64.Add, W: 8, D: 32}, false},
		{a64.Inst{Op: a64.Add, W: 8, N: 32}, false},
		{a64.Inst{Op: a64.Add, W: 8, M: 32}, false},
		{a64.Inst{Op: a64.Add, W: 8, D: -1}, false},
		{a64.Inst{Op: a64.AndI, W: 8, D: 30, N: 31, Imm: 1}, true},
		{a64.Inst{Op: a64.AndI, W: 8, D: 31, N: 31, Imm: 1}, false},
		{a64.Inst{Op: a64.AndI, W: 8, D: 30, N: 31, Imm: 0}, false},
		{a64.Inst{Op: a64.OrrI, W: 8, D: 30, N: 31, Imm: math.MaxUint64}, false},
		{a64.Inst{Op: a64.EorI, W: 8, D: 30, N: 31, Imm: 5}, false},
		{a64.Inst{Op: a64.EorI, W: 8, D: 30, N: 31, Imm: math.MaxUint64 - 1}, true},
		{a64.Inst{Op: a64.Movz, W: 8, Imm: 65536}, false},
		{a64.Inst{Op: a64.Movk, W: 8, S: 4}, false},
		{a64.Inst{Op: a64.Movn, W: 8, S: -1}, false},
		{a64.Inst{Op: a64.Madd, W: 8, A: 31}, true},
		{a64.Inst{Op: a64.Madd, W: 8, A: 32}, false},
		{a64.Inst{Op: a64.Ubfm, W: 8, S: 63, R: 63}, true},
		{a64.Inst{Op: a64.Ubfm, W: 8, S: 63, R: 64}, false},
		{a64.Inst{Op: a64.Sbfm, W: 8, S: 64, R: 63}, false},
		{a64.Inst{Op: a64.Sbfm, W: 8, S: 63, R: -1}, false},
		{a64.Inst{Op: a64.Csel, W: 8, Cond: 15}, true},
		{a64.Inst{Op: a64.Csel, W: 8, Cond: 16}, false},
		{a64.Inst{Op: a64.Csinc, W: 8, Cond: -1}, false},
		{a64.Inst{Op: a64.Ldr, W: 4, N: 1, Imm: 16380}, true},
		{a64.Inst{Op: a64.Ldr, W: 4, N: 1, Imm: 16384}, false},
		{a64.Inst{Op: a64.Ldr, W: 4, N: 1, Imm: 6}, false},
		{a64.Inst{Op: a64.Ldr, W: 1, N: 1, Imm: 4096}, false},
		{a64.Inst{Op: a64.Ldr, W: 8, N: 31}, false},
		{a64.Inst{Op: a64.Str, W: 8, N: 31}, false},
		{a64.Inst{Op: a64.Str, W: 8, N: 30, Imm: 1 << 63}, false},
		{a64.Inst{Op: a64.Ldapr, W: 2, N: 31}, false},
		{a64.Inst{Op: a64.Stlr, W: 2, N: 31}, false},
		{a64.Inst{Op: a64.Ldaxr, W: 2, N: 31}, false},
		{a64.Inst{Op: a64.Stlxr, W: 2, N: 31, M: 3}, false},
		{a64.Inst{Op: a64.Stlxr, W: 2, D: 1, N: 1, M: 31}, true},
		{a64.Inst{Op: a64.Stlxr, W: 2, D: 1, N: 2, M: 1}, false},
		{a64.Inst{Op: a64.Stlxr, W: 2, D: 1, N: 2, M: 2}, false},
		{a64.Inst{Op: a64.Stlxr, W: 2, D: 31, N: 2, M: 31}, false},
		{a64.Inst{Op: a64.Stlxr, W: 2, D: 1, N: 2, M: 32}, false},
		{a64.Inst{Op: a64.Dmb, W: 8, Imm: 0}, false},
		{a64.Inst{Op: a64.Dmb, W: 8, Imm: 8}, false},
		{a64.Inst{Op: a64.Dmb, W: 8, Imm: 12}, false},
		{a64.Inst{Op: a64.Dmb, W: 8, Imm: 15}, false},
		{a64.Inst{Op: a64.Dmb, W: 8, Imm: 16 + 11}, false},
		{a64.Inst{Op: a64.B, W: 8, Off: 0}, true},
		{a64.Inst{Op: a64.B, W: 8, Off: 2}, false},
		{a64.Inst{Op: a64.B, W: 8, Off: -3}, false},
		{a64.Inst{Op: a64.B, W: 8, Off: 1 << 27}, false},
		{a64.Inst{Op: a64.B, W: 8, Off: -1<<27 - 4}, false},
		{a64.Inst{Op: a64.B, W: 8, Off: math.MinInt64}, false},
		{a64.Inst{Op: a64.Bcc, W: 8, Off: 1 << 20}, false},
		{a64.Inst{Op: a64.Bcc, W: 8, Off: 1<<20 - 4, Cond: 15}, true},
		{a64.Inst{Op: a64.Bcc, W: 8, Off: 4, Cond: 16}, false},
		{a64.Inst{Op: a64.Cbz, W: 8, Off: -1<<20 - 4}, false},
		{a64.Inst{Op: a64.Cbz, W: 8, Off: -1 << 20}, true},
		{a64.Inst{Op: a64.Cbnz, W: 8, Off: 1}, false},
		{a64.Inst{Op: a64.Cbnz, W: 8, D: 32}, false},
		{a64.Inst{Op: a64.Br, W: 8, N: 31}, true},
		{a64.Inst{Op: a64.Br, W: 8, N: 32}, false},
		{a64.Inst{Op: a64.Svc, W: 8, Imm: 65535}, true},
		{a64.Inst{Op: a64.Svc, W: 8, Imm: 65536}, false},
		{a64.Inst{Op: a64.Brk, W: 8, Imm: 65536}, false},
	} {
		if !c.ok {
			wrong(t, c.i)
		} else if !a64.May(c.i) {
			t.Errorf("May(%+v) is false", c.i)
		}
	}
}

// P20.1: what is no operation, and what is no width of an operation; only loads and stores have others than 8.
func TestWidths(t *testing.T) {
	for _, op := range []int{math.MinInt, -1, 0, a64.Nop + 1, 100, math.MaxInt} {
		wrong(t, a64.Inst{Op: op, W: 8})
		wrong(t, a64.Inst{Op: op})
	}
	for _, c := range known {
		i := c.i
		for _, w := range []int{math.MinInt, -8, -1, 0, 1, 2, 3, 4, 5, 6, 7, 9, 16, 64, math.MaxInt} {
			i.W = w
			i.Imm = c.i.Imm &^ 7
			memory := i.Op >= a64.Ldr && i.Op <= a64.Stlxr
			if !memory || w != 1 && w != 2 && w != 4 {
				wrong(t, i)
			} else if i.Imm < 4096 && !a64.May(i) {
				t.Errorf("May(%+v) is false", i)
			}
		}
	}
}

// P20.1: fields that the table does not mention for an operation are zero; those that it mentions need not be.
func TestZero(t *testing.T) {
	mentioned := func(op int) string {
		switch {
		case op <= a64.SubsI || op >= a64.AndI && op <= a64.EorI:
			return "D N Imm"
		case op <= a64.Ands:
			return "D N M S"
		case op <= a64.Movk:
			return "D Imm S"
		case op <= a64.Msub:
			return "D N M A"
		case op <= a64.Rorv || op == a64.Stlxr:
			return "D N M"
		case op <= a64.Sbfm:
			return "D N S R"
		case op <= a64.Csinc:
			return "D N M Cond"
		case op <= a64.Str:
			return "D N Imm"
		case op <= a64.Ldaxr:
			return "D N"
		case op == a64.B:
			return "Off"
		case op == a64.Bcc:
			return "Cond Off"
		case op == a64.Cbz || op == a64.Cbnz:
			return "D Off"
		case op == a64.Br:
			return "N"
		case op == a64.Nop:
			return ""
		}
		return "Imm"
	}
	seen := map[int]bool{}
	for _, c := range known {
		if seen[c.i.Op] {
			continue
		}
		seen[c.i.Op] = true
		names := mentioned(c.i.Op)
		for name, put := range parts {
			has := slices.Contains(words(names), name)
			for _, v := range []int64{-1 << 40, -4, -1, 1, 3, 4, 7, 8, 9, 16, 31, 64, 1 << 40} {
				i := c.i
				put(&i, v)
				if i != c.i && !has {
					wrong(t, i)
				}
			}
			i := c.i
			put(&i, good(i.Op, name))
			if has && !a64.May(i) {
				t.Errorf("May(%+v) is false", i)
			}
		}
	}
	if len(seen) != a64.Nop {
		t.Errorf("%d operations, want %d", len(seen), a64.Nop)
	}
}

// good is a number that an operation may have in a field, beside the known instructions' other fields.
func good(op int, name string) int64 {
	switch {
	case op == a64.Dmb:
		return a64.Ld
	case name == "Imm" || name == "Off":
		return 8
	case name == "M":
		return 29
	}
	return 3
}

// P20.1: All returns the words of all, or ErrArg.
func TestAll(t *testing.T) {
	if l, e := a64.All(); len(l) != 0 || e != api.OK {
		t.Errorf("All() = %v, %d", l, e)
	}
	var all []a64.Inst
	var want []uint32
	for _, c := range known {
		all = append(all, c.i)
		want = append(want, c.word)
	}
	before := slices.Clone(all)
	l, e := a64.All(all...)
	if !slices.Equal(l, want) || e != api.OK {
		t.Fatalf("All(known) = %X, %d, want %X", l, e, want)
	}
	if !slices.Equal(all, before) {
		t.Error("All changes its argument")
	}
	l[0] = 7
	if again, _ := a64.All(all...); !slices.Equal(again, want) {
		t.Error("what is written into a result shows in a later one")
	}
	for k := range all {
		bad := slices.Clone(all)
		bad[k].A += 40
		if l, e := a64.All(bad...); len(l) != 0 || e != api.ErrArg {
			t.Errorf("All with %+v = %v, %d, want ErrArg", bad[k], l, e)
		}
	}
}

// P20.2: Jumps and Ends, of all operations and of what is none.
func TestJumpsEnds(t *testing.T) {
	jumps := []int{a64.B, a64.Bcc, a64.Cbz, a64.Cbnz}
	ends := []int{a64.B, a64.Br, a64.Brk}
	for op := -2; op < 60; op++ {
		i := a64.Inst{Op: op, W: 8}
		if got, want := i.Jumps(), slices.Contains(jumps, op); got != want {
			t.Errorf("Jumps of %d = %t", op, got)
		}
		if got, want := i.Ends(), slices.Contains(ends, op); got != want {
			t.Errorf("Ends of %d = %t", op, got)
		}
	}
}

// P20.1: the numbers of the operations, conditions and fences are the document's.
func TestNumbers(t *testing.T) {
	ops := []int{a64.AddI, a64.SubI, a64.AddsI, a64.SubsI, a64.Add, a64.Sub, a64.Adds, a64.Subs, a64.And, a64.Orr, a64.Eor, a64.Ands,
		a64.AndI, a64.OrrI, a64.EorI, a64.Movz, a64.Movn, a64.Movk, a64.Madd, a64.Msub, a64.Umulh, a64.Smulh, a64.Udiv, a64.Sdiv,
		a64.Lslv, a64.Lsrv, a64.Asrv, a64.Rorv, a64.Ubfm, a64.Sbfm, a64.Csel, a64.Csinc, a64.Ldr, a64.Str, a64.Ldapr, a64.Stlr,
		a64.Ldaxr, a64.Stlxr, a64.Dmb, a64.B, a64.Bcc, a64.Cbz, a64.Cbnz, a64.Br, a64.Svc, a64.Brk, a64.Nop}
	for k, op := range ops {
		if op != k+1 {
			t.Errorf("operation %d has the number %d", k+1, op)
		}
	}
	others := []int{a64.Eq, a64.Ne, a64.Cs, a64.Cc, a64.Lt, a64.Ish, a64.Ld, a64.St, a64.Zr}
	if !slices.Equal(others, []int{0, 1, 2, 3, 11, 11, 9, 10, 31}) {
		t.Errorf("the others are %v", others)
	}
}
