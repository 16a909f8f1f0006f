package lift

import (
	"calque/api"
	"calque/ir"
	"calque/xinst"
)

// combine adds that one number is made of both operands.
func (t *translator) combine() {
	a := t.value(t.i.A, t.i.W)
	r := t.two(t.i.Op, a, t.value(t.i.B, t.i.W))
	if t.i.Op != xinst.Cmp && t.i.Op != xinst.Test {
		t.set(t.i.A, r)
	}
}

// step adds that a number is increased, decreased or negated. Each of these overflows at one number alone, and none but the last one touches the carry.
func (t *translator) step() {
	w, a := t.i.W, t.number(t.i.A)
	least := t.Const(1 << (size(w) - 1))
	var r, over int
	switch t.i.Op {
	case xinst.Inc:
		r = t.by(ir.Add, a, 1)
		over = t.Alu(ir.Eq, r, least)
	case xinst.Dec:
		r = t.by(ir.Sub, a, 1)
		over = t.Alu(ir.Eq, a, least)
	case xinst.Neg:
		r = t.Alu(ir.Sub, t.Const(0), a)
		over = t.Alu(ir.Eq, a, least)
		t.change(ir.C, t.some(a))
	}
	t.change(ir.O, over)
	t.change(ir.Res, t.sx(r, w))
	t.set(t.i.A, r)
}

// both adds that register 0 is set, and the register, or the byte of register 0, that stands above it.
func (t *translator) both(low, high int) {
	w := t.i.W
	if w == 1 {
		t.write(api.RAX, 2, t.Alu(ir.Or, t.zx(low, w), t.by(ir.Shl, high, size(w))))
		return
	}
	t.write(api.RAX, w, low)
	t.write(api.RDX, w, high)
}

// halves returns words with the lower and the upper half of a product, and adds its flags: whether the lower half tells it all.
func (t *translator) halves(a, b int, signed bool) (int, int) {
	w := t.i.W
	low := t.Alu(ir.Mul, t.ext(a, w, signed), t.ext(b, w, signed))
	var high int
	switch {
	case w < wordBytes && signed:
		high = t.by(ir.Sar, low, size(w))
	case w < wordBytes:
		high = t.by(ir.Shr, low, size(w))
	case signed:
		high = t.Alu(ir.MulS, a, b)
	default:
		high = t.Alu(ir.MulU, a, b)
	}
	res, lost := t.sx(low, w), high
	if signed {
		lost = t.Alu(ir.Xor, high, t.negative(res))
	}
	over := t.some(lost)
	t.change(ir.C, over)
	t.change(ir.O, over)
	t.change(ir.Res, res)
	return low, high
}

// multiply adds that both halves of a product are kept.
func (t *translator) multiply() {
	a := t.value(t.i.A, t.i.W)
	low, high := t.halves(t.Get(api.RAX), a, t.i.Op == xinst.Smul)
	t.both(low, high)
}

// product adds that the lower half of a signed product is kept.
func (t *translator) product(a, b int) {
	low, _ := t.halves(a, b, true)
	t.set(t.i.A, low)
}

// divide adds that a quotient and its remainder are kept, or the fault that there is none.
func (t *translator) divide() {
	w, signed, by := t.i.W, t.i.Op == xinst.Sdiv, ir.DivU
	if signed {
		by = ir.DivS
	}
	d := t.ext(t.value(t.i.A, w), w, signed)
	n := t.ext(t.dividend(), 2*w, signed)
	q := t.Alu(by, n, d)
	lost := t.Alu(ir.Xor, q, t.ext(q, w, signed))
	t.trap(t.Alu(ir.Or, lost, t.by(ir.Eq, d, 0)), api.FaultDiv)
	t.both(q, t.Alu(ir.Sub, n, t.Alu(ir.Mul, q, d)))
}

// dividend returns a word with both halves of what is divided.
func (t *translator) dividend() int {
	w, low := t.i.W, t.Get(api.RAX)
	if w == 1 {
		return low
	}
	return t.Alu(ir.Or, t.by(ir.Shl, t.Get(api.RDX), size(w)), t.zx(low, w))
}

// exchange adds that B becomes what A was, and A what B was, or the sum of both.
func (t *translator) exchange() {
	a := t.value(t.i.A, t.i.W)
	v := t.value(t.i.B, t.i.W)
	if t.i.Op == xinst.Xadd {
		v = t.two(t.i.Op, a, v)
	}
	t.set(t.i.B, a)
	t.set(t.i.A, v)
}

// compare adds that A is set if register 0 says what it was. Memory is stored in either case; a register that is not set keeps its upper half too.
func (t *translator) compare() {
	w, a := t.i.W, t.number(t.i.A)
	have, b := t.zx(t.Get(api.RAX), w), t.value(t.i.B, w)
	t.two(t.i.Op, have, a)
	same := t.Alu(ir.Eq, have, a)
	// A comes behind register 0: if it is that register, it is set.
	t.change(api.RAX, t.Sel(same, t.Get(api.RAX), t.written(api.RAX, w, a)))
	if t.i.A.Kind == xinst.Mem {
		t.set(t.i.A, t.Sel(same, b, a))
		return
	}
	reg := t.i.A.Reg
	t.change(reg, t.Sel(same, t.written(reg, w, b), t.Get(reg)))
}

// choose adds that A is set to B if a condition holds, and otherwise to itself: its upper half may change.
func (t *translator) choose() {
	b := t.value(t.i.B, t.i.W)
	t.set(t.i.A, t.Sel(t.cond(t.i.Cc), b, t.value(t.i.A, t.i.W)))
}

// push adds that a word is stored below the stack.
func (t *translator) push(v int) {
	sp := t.by(ir.Sub, t.Get(api.RSP), wordBytes)
	t.store(sp, wordBytes, v)
	t.change(api.RSP, sp)
}

// pop returns the lowest word of the stack, which it leaves.
func (t *translator) pop() int {
	sp := t.Get(api.RSP)
	t.change(api.RSP, t.by(ir.Add, sp, wordBytes))
	return t.load(sp, wordBytes)
}

// jump adds where a jump or a call leads.
func (t *translator) jump() {
	if to, ok := t.i.Target(t.At); ok {
		t.End = ir.End{Kind: ir.Goto, To: to}
		return
	}
	t.End = ir.End{Kind: ir.Jump, A: t.value(t.i.A, t.i.W)}
}

// fill adds that one number of a string is stored.
func (t *translator) fill() {
	if t.i.Rep {
		t.repeat()
	}
	w := t.i.W
	v := none
	if t.i.Op == xinst.Movs {
		from := t.Get(api.RSI)
		v = t.load(from, w)
		t.change(api.RSI, t.by(ir.Add, from, uint64(w)))
	} else {
		v = t.Get(api.RAX)
	}
	to := t.Get(api.RDI)
	t.store(to, w, v)
	t.change(api.RDI, t.by(ir.Add, to, uint64(w)))
}

// repeat adds that the thread stays at the instruction as long as there is more to do, and leaves it at once if there is nothing.
func (t *translator) repeat() {
	count := t.Get(api.RCX)
	t.Add(ir.Op{Kind: ir.Skip, A: t.by(ir.Eq, count, 0), N: t.Next})
	left := t.by(ir.Sub, count, 1)
	t.change(api.RCX, left)
	t.End = ir.End{Kind: ir.If, A: left, To: t.At, Else: t.Next}
}

// call adds that a syscall is requested.
func (t *translator) call() {
	t.fence()
	t.change(api.RCX, t.Const(t.Next))
	t.change(api.R11, t.pack())
	t.End = ir.End{Kind: ir.Sys, To: t.Next}
}
