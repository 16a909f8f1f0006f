package emit

import (
	"slices"

	"calque/ir"
	"calque/sel"
)

// nowhere is the home of a value that no register is left for, or that nothing needs.
const nowhere = -1

// homes says where the values of code live: each in one of the registers for values as long as it is needed, or in its place in Room. None lives in a register of a cell, not even that of a Get.
type homes struct {
	ir.Code
	last     []int // by step, the last one that needs its value, or 0; the end counts as a step behind all others
	register []int // by step
}

// settled returns the homes of the values of code.
func settled(c ir.Code) *homes {
	h := &homes{Code: c, last: make([]int, len(c.Ops))}
	for k, o := range c.Ops {
		h.need(k, o.Uses()...)
	}
	if c.Kind == ir.If || c.Kind == ir.Jump {
		h.need(len(c.Ops), c.A)
	}
	h.repeat()
	for k := range c.Ops {
		h.register = append(h.register, h.choose(k))
	}
	return h
}

// needed reports whether a step or the end needs the value of a step.
func (h *homes) needed(k int) bool {
	return h.last[k] > k
}

// need says that a step needs the values of earlier ones.
func (h *homes) need(k int, l ...int) {
	for _, n := range l {
		h.last[n] = k
	}
}

// repeat keeps what is needed behind an exclusive load up to its store, since that may go back to the load.
func (h *homes) repeat() {
	load := slices.IndexFunc(h.Ops, func(o ir.Op) bool { return o.Kind == ir.Lx })
	store := slices.IndexFunc(h.Ops, func(o ir.Op) bool { return o.Kind == ir.Sx })
	for k := range max(0, load) {
		if h.last[k] > load {
			h.last[k] = max(h.last[k], store)
		}
	}
}

// choose returns the register in which the value of a step is to live. All earlier ones have been chosen.
func (h *homes) choose(k int) int {
	if !h.needed(k) {
		return nowhere
	}
	for r := sel.First; r <= sel.Last; r++ {
		if !h.taken(r, k) {
			return r
		}
	}
	return nowhere
}

// taken reports whether a register holds a value behind a step.
func (h *homes) taken(r, k int) bool {
	for n, home := range h.register[:k] {
		if home == r && h.last[n] > k {
			return true
		}
	}
	return false
}
