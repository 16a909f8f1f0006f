package lift

import (
	"calque/ir"
	"calque/xinst"
)

// Where flags stand in a word, and that word if all are false.
const (
	packed  = 514
	evenBit = 2
	zeroBit = 6
	signBit = 7
	overBit = 11
)

// flags adds that the flags are those of a result.
func (t *translator) flags(c, o, r int) {
	t.change(ir.C, c)
	t.change(ir.O, o)
	t.change(ir.Res, t.sx(r, t.i.W))
}

// two returns a word with what an operation makes of two others, and adds its flags.
func (t *translator) two(op, a, b int) int {
	w := t.i.W
	switch op {
	case xinst.Add, xinst.Adc, xinst.Xadd:
		return t.sum(t.zx(a, w), b, op == xinst.Adc)
	case xinst.Sub, xinst.Sbb, xinst.Cmp, xinst.Cas:
		return t.difference(t.zx(a, w), t.zx(b, w), op == xinst.Sbb)
	case xinst.Or:
		return t.logic(ir.Or, a, b)
	case xinst.Xor:
		return t.logic(ir.Xor, a, b)
	}
	return t.logic(ir.And, a, b)
}

// logic returns what a function makes of the bits of two words.
func (t *translator) logic(f, a, b int) int {
	r := t.Alu(f, a, b)
	no := t.Const(0)
	t.flags(no, no, r)
	return r
}

// sum returns the sum of a number and a word, and the carry if it is asked for. It carries where it becomes less by what is added.
func (t *translator) sum(a, b int, carry bool) int {
	w := t.i.W
	r := t.zx(t.Alu(ir.Add, a, b), w)
	c := t.Alu(ir.LtU, r, a)
	if carry {
		before := r
		r = t.zx(t.Alu(ir.Add, before, t.Get(ir.C)), w)
		c = t.Alu(ir.Or, c, t.Alu(ir.LtU, r, before))
	}
	// It overflows if its sign is neither that of a nor that of b.
	over := t.Alu(ir.And, t.Alu(ir.Xor, a, r), t.Alu(ir.Xor, b, r))
	t.flags(c, t.top(over, w), r)
	return r
}

// difference returns a word with the difference of two numbers, less the carry if it is asked for. It borrows where less is there than is taken.
func (t *translator) difference(a, b int, borrow bool) int {
	r := t.Alu(ir.Sub, a, b)
	c := t.Alu(ir.LtU, a, b)
	if borrow {
		before, in := r, t.Get(ir.C)
		r = t.Alu(ir.Sub, before, in)
		c = t.Alu(ir.Or, c, t.Alu(ir.LtU, before, in))
	}
	// It overflows if the signs of a and b differ, and its own is not that of a.
	over := t.Alu(ir.And, t.Alu(ir.Xor, a, b), t.Alu(ir.Xor, a, r))
	t.flags(c, t.top(over, t.i.W), r)
	return r
}

// cond returns whether a condition holds. Each odd one is the negation of the one before.
func (t *translator) cond(cc int) int {
	v := t.holds(cc / 2)
	if cc%2 == 1 {
		return t.by(ir.Xor, v, 1)
	}
	return v
}

// holds returns whether the first condition of a pair holds.
func (t *translator) holds(pair int) int {
	switch pair {
	case 0:
		return t.Get(ir.O)
	case 1:
		return t.Get(ir.C)
	case 2:
		return t.zero()
	case 3:
		return t.Alu(ir.Or, t.Get(ir.C), t.zero())
	case 4:
		return t.sign()
	case 5:
		return t.even()
	case 6:
		return t.below()
	}
	return t.Alu(ir.Or, t.zero(), t.below())
}

// zero returns the flag Z.
func (t *translator) zero() int {
	return t.by(ir.Eq, t.Get(ir.Res), 0)
}

// sign returns the flag S.
func (t *translator) sign() int {
	return t.top(t.Get(ir.Res), wordBytes)
}

// below returns whether the flags S and O differ.
func (t *translator) below() int {
	return t.Alu(ir.Xor, t.sign(), t.Get(ir.O))
}

// even returns the flag P. A byte has an even number of one bits if the difference of its halves has.
func (t *translator) even() int {
	const (
		halfBits = 4
		half     = 1<<halfBits - 1
		table    = 0b1001_0110_0110_1001 // bit n: whether n has an even number of one bits
	)
	res := t.Get(ir.Res)
	n := t.by(ir.And, t.Alu(ir.Xor, res, t.by(ir.Shr, res, halfBits)), half)
	return t.by(ir.And, t.Alu(ir.Shr, t.Const(table), n), 1)
}

// pack returns the flags as one word.
func (t *translator) pack() int {
	return t.Alu(ir.Or,
		t.by(ir.Or, t.Get(ir.C), packed),
		t.by(ir.Shl, t.even(), evenBit),
		t.by(ir.Shl, t.zero(), zeroBit),
		t.by(ir.Shl, t.sign(), signBit),
		t.by(ir.Shl, t.Get(ir.O), overBit))
}
