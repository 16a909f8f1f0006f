package lift

import (
	"calque/api"
	"calque/bits"
	"calque/ir"
	"calque/xinst"
)

const (
	wordBytes = 8
	byteBits  = 8
	userBits  = 47 // of an address below api.TopUser
)

// size is the number of bits of a width.
func size(w int) uint64 {
	return uint64(byteBits * w)
}

// by returns what a function makes of a value and a number.
func (t *translator) by(f, v int, n uint64) int {
	return t.Alu(f, v, t.Const(n))
}

// zx returns the unsigned number of a width of a word. One that is such a number anyway stays as it is.
func (t *translator) zx(v, w int) int {
	if w == wordBytes || t.small(v, w) {
		return v
	}
	return t.Ext(v, w, false)
}

// small reports whether a step tells by itself that its value is an unsigned number of a width.
func (t *translator) small(v, w int) bool {
	switch o := t.Ops[v]; o.Kind {
	case ir.Const:
		return o.N == bits.Zx(o.N, w)
	case ir.Ext:
		return o.W <= w && !o.Signed
	case ir.Load, ir.Lx:
		return o.W <= w
	case ir.Alu:
		return o.F == ir.Eq || o.F == ir.LtU
	}
	return false
}

// sx returns the signed number of a width of a word.
func (t *translator) sx(v, w int) int {
	if w == wordBytes {
		return v
	}
	return t.Ext(v, w, true)
}

// ext returns the signed or the unsigned number of a width of a word.
func (t *translator) ext(v, w int, signed bool) int {
	if signed {
		return t.sx(v, w)
	}
	return t.zx(v, w)
}

// top returns the highest bit of an unsigned number of a width.
func (t *translator) top(v, w int) int {
	return t.by(ir.Shr, v, size(w)-1)
}

// negative returns all ones if a signed word is below 0, and otherwise 0.
func (t *translator) negative(v int) int {
	return t.by(ir.Sar, v, size(wordBytes)-1)
}

// some returns whether a value is not 0.
func (t *translator) some(v int) int {
	return t.Alu(ir.LtU, t.Const(0), v)
}

// fence adds that earlier stores reach memory.
func (t *translator) fence() {
	t.Add(ir.Op{Kind: ir.Fence, F: ir.Full})
}

// trap adds a fault, if a value is not 0.
func (t *translator) trap(v int, fault uint64) {
	t.Add(ir.Op{Kind: ir.Trap, A: v, N: fault})
}

// address returns the address of an operand, 0 if it has no part. That of Pop is reckoned after its register has grown.
func (t *translator) address(a xinst.Addr) int {
	disp := uint64(a.Disp)
	var parts []int
	switch a.Base {
	case xinst.No:
	case xinst.Rip:
		disp += t.Next
	case api.RSP:
		if t.i.Op == xinst.Pop {
			disp += wordBytes
		}
		fallthrough
	default:
		parts = append(parts, t.Get(a.Base))
	}
	if a.Index != xinst.No {
		parts = append(parts, t.scaled(a))
	}
	if disp != 0 {
		parts = append(parts, t.Const(disp))
	}
	return t.Alu(ir.Add, parts...)
}

// scaled returns what the index adds to an address.
func (t *translator) scaled(a xinst.Addr) int {
	v := t.Get(a.Index)
	if a.Scale == 1 {
		return v
	}
	return t.by(ir.Shl, v, uint64(bits.Log(a.Scale)))
}

// test adds a fault, if an address is not below api.TopUser. What is stored where it was read is tested once.
func (t *translator) test(at int) {
	if at == t.tested {
		return
	}
	t.tested = at
	t.trap(t.by(ir.Shr, at, userBits), api.FaultMem)
}

// load returns some bytes of memory.
func (t *translator) load(at, w int) int {
	t.test(at)
	kind := ir.Load
	if t.locked() {
		kind = ir.Lx
	}
	return t.Add(ir.Op{Kind: kind, W: w, A: at})
}

// store adds that the lowest bytes of a word are stored.
func (t *translator) store(at, w, v int) {
	t.test(at)
	kind := ir.Store
	if t.locked() {
		kind = ir.Sx
	}
	t.Add(ir.Op{Kind: kind, W: w, A: at, B: v})
}

// value returns a word whose number of a width is the value of an operand.
func (t *translator) value(o xinst.Opd, w int) int {
	switch o.Kind {
	case xinst.Reg:
		return t.Get(o.Reg)
	case xinst.Mem:
		return t.load(t.place, w)
	}
	return t.Const(bits.Zx(uint64(t.i.Imm), w))
}

// number returns the value of an operand.
func (t *translator) number(o xinst.Opd) int {
	return t.zx(t.value(o, t.i.W), t.i.W)
}

// set adds that an operand is set to the number of a word.
func (t *translator) set(o xinst.Opd, v int) {
	if o.Kind == xinst.Mem {
		t.store(t.place, t.i.W, v)
		return
	}
	t.write(o.Reg, t.i.W, v)
}

// change adds that a cell is set, at the end.
func (t *translator) change(cell, v int) {
	t.changes = append(t.changes, change{cell, v})
}

// write adds that a register is written with a width.
func (t *translator) write(reg, w, v int) {
	t.change(reg, t.written(reg, w, v))
}

// written returns a register as it is when it is written with a width. Only numbers of one and two bytes leave what is above them.
func (t *translator) written(reg, w, v int) int {
	n := t.zx(v, w)
	if w > 2 {
		return n
	}
	return t.Alu(ir.Or, t.by(ir.And, t.Get(reg), ^bits.Mask(w)), n)
}
