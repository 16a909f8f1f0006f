package recode_test

import (
	"slices"
	"strings"
	"testing"

	"calque/ir"
	"calque/recode"
)

// sample is code whose step 1 nothing uses.
func sample() ir.Code {
	return ir.Code{At: 3, Next: 4, End: ir.End{Kind: ir.If, A: 4, To: 4, Else: 9}, Ops: []ir.Op{{Kind: ir.Fence, F: ir.Full}, {Kind: ir.Get, N: 1}, {Kind: ir.Const, N: 5}, {Kind: ir.Load, W: 2, A: 2},
		{Kind: ir.Sel, A: 3, B: 2, C: 3}, {Kind: ir.Store, W: 2, A: 2, B: 4}}}
}

// text is the text of code's steps.
func text(c ir.Code) string { return strings.Join(ir.Show(c), "; ") }

// Steps that stay are renumbered, and so is the end; fields that name no step stay 0.
func TestPart(t *testing.T) {
	for _, x := range []struct {
		stays string // the steps that stay
		end   int    // the step that the end uses then
		want  string
	}{
		{"012345", 4, "fence 1; v1 = get 1; v2 = const 5; v3 = load.2 v2; v4 = sel v3 v2 v3; store.2 v2 v4"},
		{"1234", 3, "v0 = get 1; v1 = const 5; v2 = load.2 v1; v3 = sel v2 v1 v2"},
		{"0234", 3, "fence 1; v1 = const 5; v2 = load.2 v1; v3 = sel v2 v1 v2"},
		{"2345", 2, "v0 = const 5; v1 = load.2 v0; v2 = sel v1 v0 v1; store.2 v0 v2"},
	} {
		c := sample()
		stays := make([]bool, len(c.Ops))
		for _, digit := range x.stays {
			stays[digit-'0'] = true
		}
		got := recode.Part(c, stays)
		if text(got) != x.want || got.At != 3 || got.Next != 4 || got.End != (ir.End{Kind: ir.If, A: x.end, To: 4, Else: 9}) {
			t.Errorf("%s: %+v", x.stays, got)
		}
		if !slices.Equal(c.Ops, sample().Ops) {
			t.Fatal("changed", c)
		}
	}
}

// Steps that are put between others count too; ends that use no step stay as they are.
func TestMaker(t *testing.T) {
	c := sample()
	m := recode.New(c)
	m.Const(8)
	for k, o := range c.Ops {
		m.Keep(k, o)
		if k == 3 {
			m.Put(7, m.Get(6))
		}
	}
	got := m.Done(ir.End{Kind: ir.Jump, A: 3})
	if s := text(got); s != "v0 = const 8; fence 1; v2 = get 1; v3 = const 5; v4 = load.2 v3; v5 = get 6; put 7 v5; v7 = sel v4 v3 v4; store.2 v3 v7" || got.End != (ir.End{Kind: ir.Jump, A: 4}) {
		t.Error(s, got.End)
	}
	for _, e := range []ir.End{{Kind: ir.Goto, To: 7}, {Kind: ir.Sys, To: 2}, {Kind: ir.Stop, A: 6}} {
		if got := recode.New(c).Done(e); got.End != e || len(got.Ops) != 0 || got.At != 3 || got.Next != 4 {
			t.Error(e, got)
		}
	}
}
