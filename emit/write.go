package emit

import (
	"calque/a64"
	"calque/ir"
	"calque/sel"
)

// writer writes the lines of a code.
type writer struct {
	ir.Code
	homes *homes
	after []ir.Code // the codes that follow
	lines []Line
	load  int   // the line of the exclusive load
	over  []int // lines that jump to the bound of the next code
}

// written returns the lines of a code, ahead of those that follow.
func written(c ir.Code, after []ir.Code) []Line {
	w := &writer{Code: c, homes: settled(c), after: after}
	w.lines = []Line{{Bound: true, To: c.At}}
	for k, o := range c.Ops {
		w.step(k, o)
	}
	w.leave()
	for _, n := range w.over {
		w.lines[n].Off = w.distance(n, len(w.lines))
	}
	return w.lines
}

// distance returns how far one line is from another. Between them are instructions alone.
func (w *writer) distance(from, to int) int64 {
	return int64(instBytes * (to - from))
}

// add adds instructions that refer to nothing.
func (w *writer) add(l ...a64.Inst) {
	w.lines = append(w.lines, plain(l...)...)
}

// refer adds an instruction that jumps to the block at an address.
func (w *writer) refer(i a64.Inst, to uint64) {
	w.lines = append(w.lines, Line{Inst: i, Ref: Block, To: to})
}

// room is the load or the store of the place that a value has in Room.
func room(op, r, k int) a64.Inst {
	return a64.Inst{Op: op, W: wordBytes, D: r, N: sel.Spill, Imm: uint64(wordBytes * k)}
}

// fetch returns the registers of values, which it loads if they live in Room.
func (w *writer) fetch(l ...int) [3]int {
	r := [...]int{sel.Third, sel.Spare, sel.Other}
	for n, k := range l {
		if home := w.homes.register[k]; home != nowhere {
			r[n] = home
		} else {
			w.add(room(a64.Ldr, r[n], k))
		}
	}
	return r
}

// step adds the instructions of a step.
func (w *writer) step(k int, o ir.Op) {
	if o.Pure() && !w.homes.needed(k) {
		return
	}
	r := w.fetch(o.Uses()...)
	switch o.Kind {
	case ir.Trap:
		w.add(
			a64.Inst{Op: a64.Cbz, W: wordBytes, D: r[0], Off: 2 * instBytes},
			a64.Inst{Op: a64.Brk, W: wordBytes, Imm: o.N},
		)
	case ir.Skip:
		w.branch(r[0], o.N)
	case ir.Sx:
		w.exchange(o.W, r[0], r[1])
	case ir.Lx:
		w.load = len(w.lines)
		fallthrough
	default:
		w.value(k, o, r)
	}
}

// value adds the instructions of a step that has some of its own, and keeps its value.
func (w *writer) value(k int, o ir.Op, r [3]int) {
	d, stored := w.homes.register[k], false
	if d == nowhere {
		d, stored = sel.Third, w.homes.needed(k)
	}
	l, _ := sel.Step(o, d, r[0], r[1], r[2])
	w.add(l...)
	if stored {
		w.add(room(a64.Str, d, k))
	}
}

// exchange adds an exclusive store, and the way back to its load if it fails. The load finds its address again: both fetch it to the same register.
func (w *writer) exchange(width, at, v int) {
	w.add(a64.Inst{Op: a64.Stlxr, W: width, D: v, N: at, M: sel.Other})
	back := w.distance(len(w.lines), w.load)
	w.add(a64.Inst{Op: a64.Cbnz, W: wordBytes, D: sel.Other, Off: back})
}

// follows reports whether the bound of the next code is where the code continues at an address.
func (w *writer) follows(to uint64) bool {
	if len(w.after) == 0 || to != w.after[0].At {
		return false
	}
	return w.Kind == ir.Goto || w.Kind == ir.If && to == w.Else
}

// branch adds a jump to an address, unless a register is 0.
func (w *writer) branch(r int, to uint64) {
	jump := a64.Inst{Op: a64.Cbnz, W: wordBytes, D: r}
	switch {
	case w.follows(to):
		w.over = append(w.over, len(w.lines))
		w.add(jump)
	case len(w.over) > 0:
		// A jump to the next bound is above it, and may cross no instruction that refers but a B.
		w.add(a64.Inst{Op: a64.Cbz, W: wordBytes, D: r, Off: 2 * instBytes})
		w.jump(to)
	default:
		w.refer(jump, to)
	}
}

// jump adds a jump to the block at an address.
func (w *writer) jump(to uint64) {
	w.refer(a64.Inst{Op: a64.B, W: wordBytes}, to)
}

// advance adds what continues at an address.
func (w *writer) advance(to uint64) {
	if !w.follows(to) {
		w.jump(to)
	}
}

// leave adds the instructions of the end.
func (w *writer) leave() {
	switch w.Kind {
	case ir.Goto:
		w.advance(w.To)
	case ir.If:
		if w.To != w.Else {
			w.branch(w.fetch(w.A)[0], w.To)
		}
		w.advance(w.Else)
	case ir.Jump:
		w.add(sel.Move(sel.Other, w.fetch(w.A)[0]))
		w.lines = append(w.lines, Line{Inst: a64.Inst{Op: a64.B, W: wordBytes}, Ref: Find})
	case ir.Sys:
		w.add(a64.Inst{Op: a64.Svc, W: wordBytes})
		w.jump(w.To)
	case ir.Stop:
		w.add(a64.Inst{Op: a64.Brk, W: wordBytes, Imm: uint64(w.A)})
	}
}
