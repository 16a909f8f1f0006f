// Package recode makes code anew from steps of other code. It serves the layers that leave steps out or put some between them.
package recode

import "calque/ir"

// Maker makes code of steps of other code, in their order. What is added beside them gets a number of its own.
type Maker struct {
	ir.Maker
	number []int // the new numbers of the steps that are kept, by their old ones
}

// New returns a maker of code for the same instruction, with no step yet.
func New(c ir.Code) *Maker {
	m := &Maker{number: make([]int, len(c.Ops))}
	m.At, m.Next = c.At, c.Next
	return m
}

// Keep adds a step that had the number k. All that it uses has been kept.
func (m *Maker) Keep(k int, o ir.Op) {
	fields := []*int{&o.A, &o.B, &o.C}
	for n, used := range o.Uses() {
		*fields[n] = m.number[used]
	}
	m.number[k] = m.Add(o)
}

// Done returns the code, with the end that it had. A step that the end uses has been kept.
func (m *Maker) Done(e ir.End) ir.Code {
	if e.Kind == ir.If || e.Kind == ir.Jump {
		e.A = m.number[e.A]
	}
	m.End = e
	return m.Code
}

// Part returns valid code with those of its steps that stay. None of these uses one that does not.
func Part(c ir.Code, stays []bool) ir.Code {
	m := New(c)
	for k, o := range c.Ops {
		if stays[k] {
			m.Keep(k, o)
		}
	}
	return m.Done(c.End)
}
