package lift

import (
	"calque/api"
	"calque/ir"
	"calque/xinst"
)

// turn adds that a number is shifted or rotated. If the count is known to be 0, no flag is touched.
func (t *translator) turn() {
	a := t.number(t.i.A)
	if t.fixed() && t.masked(far(t.i.W)) == 0 {
		t.set(t.i.A, a)
		return
	}
	switch t.i.Op {
	case xinst.Rol, xinst.Ror:
		t.rotate(a)
	default:
		t.shift(a)
	}
}

// far is the mask of a count for numbers of a width.
func far(w int) uint64 {
	if w == wordBytes {
		return 63
	}
	return 31
}

// fixed reports whether the instruction tells its count.
func (t *translator) fixed() bool {
	return t.i.B.Kind == xinst.Imm
}

// masked is the count that the instruction tells, under a mask.
func (t *translator) masked(mask uint64) uint64 {
	return uint64(t.i.Imm) & mask
}

// count returns the count, under a mask.
func (t *translator) count(mask uint64) int {
	if t.fixed() {
		return t.Const(t.masked(mask))
	}
	return t.by(ir.And, t.Get(api.RCX), mask)
}

// keep adds that a flag is set, unless the count is 0.
func (t *translator) keep(cell, v, count int) {
	if !t.fixed() {
		v = t.Sel(count, v, t.Get(cell))
	}
	t.change(cell, v)
}

// shift adds that a number is shifted.
func (t *translator) shift(a int) {
	w := t.i.W
	k := t.count(far(w))
	var r, c, o int
	switch t.i.Op {
	case xinst.Shl:
		r, c = t.left(a, k)
		o = t.Alu(ir.Xor, t.top(r, w), c)
	case xinst.Shr:
		r, c = t.right(ir.Shr, a, k)
		o = t.top(a, w)
	case xinst.Sar:
		r, c = t.right(ir.Sar, t.sx(a, w), k)
		o = t.Const(0)
	}
	t.keep(ir.C, c, k)
	t.keep(ir.O, o, k)
	t.keep(ir.Res, t.sx(r, w), k)
	t.set(t.i.A, r)
}

// left returns a number shifted left, and the last bit shifted out, which stands just above it where there is room.
func (t *translator) left(a, k int) (int, int) {
	w := t.i.W
	word := t.Alu(ir.Shl, a, k)
	if w < wordBytes {
		return t.zx(word, w), t.by(ir.And, t.by(ir.Shr, word, size(w)), 1)
	}
	return word, t.top(t.Alu(ir.Shl, t.by(ir.Shr, a, 1), k), w)
}

// right returns a word shifted right, and the last bit shifted out: the lowest one of twice the word, shifted as far.
func (t *translator) right(f, a, k int) (int, int) {
	out := t.Alu(ir.Shr, t.by(ir.Shl, a, 1), k)
	return t.zx(t.Alu(f, a, k), t.i.W), t.by(ir.And, out, 1)
}

// rotate adds that a number is rotated. The flags that the result would tell stay as they are.
func (t *translator) rotate(a int) {
	w := t.i.W
	k, back := t.around()
	var r, c, o int
	switch t.i.Op {
	case xinst.Rol:
		r = t.zx(t.Alu(ir.Or, t.Alu(ir.Shl, a, k), t.Alu(ir.Shr, a, back)), w)
		c = t.by(ir.And, r, 1)
		o = t.Alu(ir.Xor, t.top(r, w), c)
	case xinst.Ror:
		r = t.zx(t.Alu(ir.Or, t.Alu(ir.Shr, a, k), t.Alu(ir.Shl, a, back)), w)
		c = t.top(r, w)
		o = t.by(ir.And, t.Alu(ir.Xor, c, t.by(ir.Shr, r, size(w)-2)), 1)
	}
	if !t.fixed() && size(w) <= far(w) {
		// What comes round to itself is rotated all the same.
		k = t.count(far(w))
	}
	t.keep(ir.C, c, k)
	t.keep(ir.O, o, k)
	t.set(t.i.A, r)
}

// around returns by how many bits a number is rotated, and by how many more it would come round.
func (t *translator) around() (int, int) {
	n := size(t.i.W)
	k := t.count(n - 1)
	if t.fixed() {
		return k, t.Const(n - t.masked(n-1))
	}
	return k, t.Alu(ir.Sub, t.Const(n), k)
}
