package emit

import (
	"slices"

	"calque/ir"
	"calque/sel"
)

// nowhere is the home of a value that no register is left for, or that nothing needs.
const nowhere = -1

// homes says where the values of code live: each in one register as long as it is needed, or in its place in Room.
type homes struct {
	ir.Code
	last     []int // by step, the last one that needs its value, or 0; the end counts as a step behind all others
	register []int // by step
}

// settled returns the homes of the values of code.
func settled(c ir.Code) *homes {
	h := &homes{Code: c, last: make([]int, len(c.Ops))}
	for k, o := range c.Ops {
		h.need(k, o.Uses()...)
	}
	if c.Kind == ir.If || c.Kind == ir.Jump {
		h.need(len(c.Ops), c.A)
	}
	h.repeat()
	for k := range c.Ops {
		h.register = append(h.register, h.choose(k))
	}
	return h
}

// needed reports whether a step or the end needs the value of a step.
func (h *homes) needed(k int) bool {
	return h.last[k] > k
}

// need says that a step needs the values of earlier ones.
func (h *homes) need(k int, l ...int) {
	for _, n := range l {
		h.last[n] = k
	}
}

// repeat keeps what is needed behind an exclusive load up to its store, since that may go back to the load.
func (h *homes) repeat() {
	load := slices.IndexFunc(h.Ops, func(o ir.Op) bool { return o.Kind == ir.Lx })
	store := slices.IndexFunc(h.Ops, func(o ir.Op) bool { return o.Kind == ir.Sx })
	for k := range max(0, load) {
		if h.last[k] > load {
			h.last[k] = max(h.last[k], store)
		}
	}
}

// choose returns the register in which the value of a step is to live. All earlier ones have been chosen.
func (h *homes) choose(k int) int {
	o := h.Ops[k]
	if !h.needed(k) {
		return nowhere
	}
	if o.Kind == ir.Get && !h.any(ir.Put, o.N, k+1, h.last[k]) {
		return int(o.N)
	}
	if r, ok := h.early(k); ok {
		return r
	}
	for r := sel.First; r <= sel.Last; r++ {
		if !h.taken(r, k) {
			return r
		}
	}
	return nowhere
}

// taken reports whether a register holds a value behind a step.
func (h *homes) taken(r, k int) bool {
	for n, home := range h.register[:k] {
		if home == r && h.last[n] > k {
			return true
		}
	}
	return false
}

// any reports whether a cell has to do with a step of a kind, from one number on up to before another.
func (h *homes) any(kind int, cell uint64, from, to int) bool {
	for k := from; k < to; k++ {
		if o := h.Ops[k]; o.Kind == kind && o.N == cell {
			return true
		}
	}
	return false
}

// early returns the register of a cell that is set to the value of a step later, if the value may be there from the beginning: as long as it is not set, nothing needs what was there, and the code does not end.
func (h *homes) early(k int) (int, bool) {
	for n, o := range h.Ops[k+1:] {
		put := k + 1 + n
		switch {
		case o.Kind == ir.Put && o.A == k:
			return int(o.N), h.vacant(o.N, k, put)
		case !o.Pure() && o.Kind != ir.Put:
			return 0, false
		}
	}
	return 0, false
}

// vacant reports whether a cell may be set as early as at a step, instead of later, and hold its value.
func (h *homes) vacant(cell uint64, k, put int) bool {
	touched := h.any(ir.Get, cell, k+1, put) || h.any(ir.Put, cell, k+1, put)
	return !touched && !h.taken(int(cell), k) && !h.any(ir.Put, cell, put+1, h.last[k])
}
