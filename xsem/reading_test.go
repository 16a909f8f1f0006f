package xsem_test

import (
	"math"
	"slices"
	"strings"
	"testing"

	"calque/api"
	"calque/mem"
	"calque/xflag"
	"calque/xinst"
	"calque/xsem"
)

// assign is that a register, or w bytes of memory if reg is below 0, become a number.
type assign struct {
	reg int
	at  uint64
	w   int
	v   uint64
}

// reading is a second reading of the document's table: first all that an instruction would change is told, then it is done, if it may be.
type reading struct {
	c      xsem.Cpu // as it was
	t      int
	i      xinst.Inst
	name   string // of its operation
	m      *mem.Mem
	next   uint64
	sets   []assign
	flags  xflag.Thunk
	ip     uint64
	end    int
	flush  bool
	banned bool // a read that may not be
}

// name is the operation's, as the text form has it.
func name(i xinst.Inst) string {
	s := strings.TrimPrefix(strings.TrimPrefix(xinst.Show(i), "lock "), "rep ")
	return s[:strings.IndexByte(s, '.')]
}

// among reports whether the operation is one of a list.
func (r *reading) among(list string) bool {
	return slices.Contains(strings.Fields(list), r.name)
}

// address is the sum of an address's parts.
func (r *reading) address(a xinst.Addr, sp uint64) uint64 {
	sum := uint64(a.Disp)
	for n := range 16 {
		v := r.c.Reg[n]
		if n == 4 {
			v = sp
		}
		if a.Base == n {
			sum += v
		}
		if a.Index == n {
			for range a.Scale {
				sum += v
			}
		}
	}
	if a.Base == 16 {
		sum += r.next
	}
	return sum
}

// bytes are read.
func (r *reading) bytes(at uint64, w int) uint64 {
	v, ok := r.m.Load(r.t, at, w)
	r.banned = r.banned || !ok
	return v
}

// value is that of an operand.
func (r *reading) value(o xinst.Opd, w int) uint64 {
	if o.Kind == xinst.Reg {
		return low(r.c.Reg[o.Reg], w)
	}
	if o.Kind == xinst.Mem {
		return r.bytes(r.address(o.Addr, r.c.Reg[4]), w)
	}
	return low(uint64(r.i.Imm), w)
}

// let tells that an operand is set; reg that a register is; put that memory is.
func (r *reading) let(o xinst.Opd, v uint64) {
	if o.Kind == xinst.Reg {
		r.reg(o.Reg, r.i.W, v)
	} else {
		r.put(r.address(o.Addr, r.c.Reg[4]), r.i.W, v)
	}
}

func (r *reading) reg(reg, w int, v uint64)       { r.sets = append(r.sets, assign{reg, 0, w, v}) }
func (r *reading) put(at uint64, w int, v uint64) { r.sets = append(r.sets, assign{-1, at, w, v}) }

// locked is as the document says it.
func (r *reading) locked() bool {
	return r.i.Lock || r.name == "xchg" && r.i.A.Kind == xinst.Mem
}

// apply does what is told, if all reads and stores may be. It returns the cpu after it, and how the step ended.
func (r *reading) apply() (xsem.Cpu, int) {
	if r.locked() || r.flush {
		r.m.Flush(r.t)
	}
	may := !r.banned
	for _, s := range r.sets {
		may = may && (s.reg >= 0 || r.m.May(r.t, s.at, s.w, true))
	}
	if !may {
		return r.c, api.FaultMem
	}
	if r.end == api.FaultDiv || r.end == api.FaultUd {
		return r.c, r.end
	}
	c := r.c
	c.Thunk, c.Ip = r.flags, r.ip
	for _, s := range r.sets {
		switch {
		case s.reg < 0 && r.locked():
			r.m.Put(r.t, s.at, s.w, s.v)
		case s.reg < 0:
			r.m.Store(r.t, s.at, s.w, s.v)
		case s.w >= 4:
			c.Reg[s.reg] = low(s.v, s.w)
		default:
			n := 8 * s.w
			c.Reg[s.reg] = c.Reg[s.reg]>>n<<n | low(s.v, s.w)
		}
	}
	return c, r.end
}

// read tells what the instruction does.
func (r *reading) read() {
	i, w := r.i, r.i.W
	r.flags, r.next = r.c.Thunk, r.c.Ip+uint64(i.Len)
	r.ip = r.next
	switch {
	case r.among("add or adc sbb and sub xor cmp test not neg inc dec mul smul div sdiv imul imuli rol ror shl shr sar"):
		r.reckon()
	case r.among("mov"):
		r.let(i.A, r.value(i.B, w))
	case r.among("movzx"):
		r.let(i.A, r.value(i.B, i.W2))
	case r.among("movsx"):
		r.let(i.A, ext(r.value(i.B, i.W2), i.W2))
	case r.among("lea"):
		r.let(i.A, r.address(i.B.Addr, r.c.Reg[4]))
	case r.among("xchg"):
		a, b := r.value(i.A, w), r.value(i.B, w)
		r.let(i.A, b)
		r.let(i.B, a)
	case r.among("cas"):
		r.cas()
	case r.among("xadd"):
		a := r.value(i.A, w)
		v, f := xflag.Two(xinst.Add, a, r.value(i.B, w), r.flags, w)
		r.flags = f
		r.let(i.B, a)
		r.let(i.A, v)
	case r.among("cmov"):
		b := r.value(i.B, w)
		if r.flags.Cond(i.Cc) {
			r.let(i.A, b)
		} else {
			r.let(i.A, r.value(i.A, w))
		}
	case r.among("set"):
		if r.flags.Cond(i.Cc) {
			r.let(i.A, 1)
		} else {
			r.let(i.A, 0)
		}
	case r.among("wide"):
		r.reg(0, w, ext(r.c.Reg[0], w/2))
	case r.among("sign"):
		v := uint64(0)
		if int64(ext(r.c.Reg[0], w)) < 0 {
			v = all
		}
		r.reg(2, w, v)
	default:
		r.flow()
	}
}

// reckon tells what the instructions with numbers do.
func (r *reading) reckon() {
	i, w := r.i, r.i.W
	var v, v2 uint64
	switch {
	case r.among("cmp test"):
		_, r.flags = xflag.Two(i.Op, r.value(i.A, w), r.value(i.B, w), r.flags, w)
		return
	case r.among("not neg inc dec"):
		v, r.flags = xflag.One(i.Op, r.value(i.A, w), r.flags, w)
	case r.among("imul"):
		v, _, r.flags = xflag.Product(r.value(i.A, w), r.value(i.B, w), true, w)
	case r.among("imuli"):
		v, _, r.flags = xflag.Product(r.value(i.B, w), uint64(i.Imm), true, w)
	case r.among("rol ror shl shr sar"):
		n := i.Imm
		if i.B.Kind == xinst.Reg {
			n = int64(r.c.Reg[1] & 255)
		}
		v, r.flags = xflag.Turn(i.Op, r.value(i.A, w), n, r.flags, w)
	case r.among("mul smul"):
		v, v2, r.flags = xflag.Product(low(r.c.Reg[0], w), r.value(i.A, w), r.name == "smul", w)
		r.halves(v, v2)
		return
	case r.among("div sdiv"):
		hi, lo := r.c.Reg[2], r.c.Reg[0]
		if w == 1 {
			hi = lo >> 8
		}
		q, rest, ok := xflag.Quotient(low(hi, w), low(lo, w), r.value(i.A, w), r.name == "sdiv", w)
		if !ok {
			r.end = api.FaultDiv
		}
		r.halves(q, rest)
		return
	default:
		v, r.flags = xflag.Two(i.Op, r.value(i.A, w), r.value(i.B, w), r.flags, w)
	}
	r.let(i.A, v)
}

// halves tells that both halves of a product, or a quotient and a remainder, are set.
func (r *reading) halves(lo, hi uint64) {
	if r.i.W == 1 {
		r.reg(0, 2, lo+256*hi)
		return
	}
	r.reg(0, r.i.W, lo)
	r.reg(2, r.i.W, hi)
}

// cas tells what Cas does.
func (r *reading) cas() {
	i, w := r.i, r.i.W
	a := r.value(i.A, w)
	_, r.flags = xflag.Two(xinst.Cmp, r.c.Reg[0], a, r.flags, w)
	if r.flags.Cond(4) {
		r.let(i.A, r.value(i.B, w))
		return
	}
	r.reg(0, w, a)
	if i.A.Kind == xinst.Mem {
		r.let(i.A, a)
	}
}

// flow tells what the stack, the strings and the flow of control do.
func (r *reading) flow() {
	i, sp, goal := r.i, r.c.Reg[4], r.next+uint64(r.i.Imm)
	if r.among("jmp call") && i.A.Kind != xinst.None {
		goal = r.value(i.A, 8)
	}
	switch r.name {
	case "push":
		r.put(sp-8, 8, r.value(i.A, 8))
		r.reg(4, 8, sp-8)
	case "pop":
		v := r.bytes(sp, 8)
		r.reg(4, 8, sp+8)
		if i.A.Kind == xinst.Mem {
			r.put(r.address(i.A.Addr, sp+8), 8, v)
		} else {
			r.let(i.A, v)
		}
	case "jcc":
		if r.flags.Cond(i.Cc) {
			r.ip = goal
		}
	case "jmp":
		r.ip = goal
	case "call":
		r.put(sp-8, 8, r.next)
		r.reg(4, 8, sp-8)
		r.ip = goal
	case "ret":
		r.ip = r.bytes(sp, 8)
		r.reg(4, 8, sp+8)
	case "movs", "stos":
		r.string()
	case "fence":
		r.flush = true
	case "ud":
		r.end = api.FaultUd
	case "sys":
		r.flush = true
		r.end = api.Calls
		r.reg(1, 8, r.next)
		r.reg(11, 8, r.flags.Pack())
	}
}

// string tells what Movs and Stos do.
func (r *reading) string() {
	w := uint64(r.i.W)
	count, from, to := r.c.Reg[1], r.c.Reg[6], r.c.Reg[7]
	if r.i.Rep && count == 0 {
		return
	}
	v := r.c.Reg[0]
	if r.name == "movs" {
		v = r.bytes(from, r.i.W)
		r.reg(6, 8, from+w)
	}
	r.put(to, r.i.W, v)
	r.reg(7, 8, to+w)
	if r.i.Rep {
		r.reg(1, 8, count-1)
		if count != 1 {
			r.ip = r.c.Ip
		}
	}
}

// spots are the first addresses of areas, and their sizes.
var spots = [...][2]uint64{{0x1000, 64}, {0x2000, 32}, {0x3000, 48}, {0x4000, 64}, {math.MaxUint64 - 15, 16}}

// world is memory with areas of all kinds and stores in buffers.
func (d *dice) world() *mem.Mem {
	var l []mem.Area
	for k, s := range spots {
		b := make([]byte, s[1])
		for n := range b {
			if d.below(3) > 0 {
				b[n] = byte(d.word())
			}
		}
		l = append(l, mem.Area{Lo: s[0], Data: b, Write: k != 1, Private: k == 2})
	}
	m := mem.New(l...)
	m.Own(d.below(2), 2)
	for range d.below(4) {
		m.Store(d.below(2), d.spot(), widths[d.below(4)], d.word())
	}
	return m
}

// spot is an address in an area, or near its ends.
func (d *dice) spot() uint64 {
	s := spots[d.below(len(spots))]
	return s[0] + uint64(d.below(int(s[1])+6)) - 3
}

// number is a word, often a small or a great one.
func (d *dice) number() uint64 {
	switch d.below(4) {
	case 0:
		return uint64(d.below(5)) - 2
	case 1:
		return 1<<(8*widths[d.below(4)]-1) + uint64(d.below(3)) - 1
	}
	return d.word() >> (8 * d.below(8))
}

// cpu is one of which some registers are addresses.
func (d *dice) cpu() xsem.Cpu {
	c := xsem.Cpu{Thunk: xflag.Thunk{C: d.below(2) == 0, O: d.below(2) == 0, Res: d.number()}, Ip: d.number()}
	for k := range c.Reg {
		c.Reg[k] = d.number()
		if d.below(3) == 0 || k == 4 || k == 6 || k == 7 {
			c.Reg[k] = d.spot()
		}
	}
	return c
}

// operand is one of any kind. Many addresses lead into areas.
func (d *dice) operand(c *xsem.Cpu, next uint64) xinst.Opd {
	switch d.below(5) {
	case 0:
		return xinst.Opd{}
	case 1:
		return xinst.R(d.below(16))
	case 2:
		return []xinst.Opd{xinst.I(), r1}[d.below(2)]
	}
	o := xinst.M(d.below(18)-1, -1, 1, 0)
	if d.below(2) == 0 && o.Base != 16 {
		o.Index, o.Scale = d.below(16), 1<<d.below(4)
	}
	away := int64(d.spot() - (&reading{c: *c, next: next}).address(o.Addr, c.Reg[4]))
	if o.Disp = away; away != int64(int32(away)) {
		o.Disp = int64(int32(d.word()))
	}
	return o
}

// inst is a valid instruction with an operation.
func (d *dice) inst(op int, c *xsem.Cpu) xinst.Inst {
	for {
		i := xinst.Inst{Op: op, W: widths[d.below(4)], Len: d.below(16)}
		i.A, i.B = d.operand(c, c.Ip+uint64(i.Len)), d.operand(c, c.Ip+uint64(i.Len))
		i.Lock, i.Rep = d.below(3) == 0, d.below(2) == 0
		if d.below(2) == 0 {
			i.Imm = int64(ext(d.number(), widths[d.below(4)]))
		}
		if op == xinst.Movzx || op == xinst.Movsx {
			i.W2 = widths[d.below(3)]
		}
		if op == xinst.Cmov || op == xinst.Set || op == xinst.Jcc {
			i.Cc = d.below(16)
		}
		if xinst.May(i) {
			return i
		}
	}
}

// round is a step that is about to be done.
type round struct {
	c xsem.Cpu
	t int
	i xinst.Inst
	m *mem.Mem
}

// compare executes the step, and compares it with its second reading.
func (x round) compare(t *testing.T) int {
	t.Helper()
	c, m := x.c, x.m.Copy()
	end := c.Step(x.t, x.i, m)
	n := x.m.Copy()
	r := reading{c: x.c, t: x.t, i: x.i, m: n, name: name(x.i)}
	r.read()
	want, end2 := r.apply()
	if end != end2 || c != want {
		t.Fatalf("%s: %d %+v, not %d %+v; before %+v", xinst.Show(x.i), end, c, end2, want, x.c)
	}
	if !like(m, n) {
		t.Fatalf("%s: memory %v, not %v", xinst.Show(x.i), m.Areas(), n.Areas())
	}
	x.consequences(t, c, m, end)
	return end
}

// like reports whether memories are the same, now and at each moment while their buffers are drained.
func like(m, n *mem.Mem) bool {
	m, n = m.Copy(), n.Copy()
	for k := range 8 {
		if m.Pending(k) != n.Pending(k) {
			return false
		}
		for m.Drain(k) {
			if n.Drain(k); !m.Same(n) {
				return false
			}
		}
	}
	return m.Same(n)
}

// consequences checks P10.3, P10.4 and P10.5 on a step that is done.
func (x round) consequences(t *testing.T, c xsem.Cpu, m *mem.Mem, end int) {
	t.Helper()
	locked := x.i.Lock || x.i.Op == xinst.Xchg && x.i.A.Kind == xinst.Mem
	flushes := locked || x.i.Op == xinst.Fence || x.i.Op == xinst.Sys
	if !flushes && !same(m.Areas(), x.m.Areas()) {
		t.Fatalf("%s changes memory", xinst.Show(x.i))
	}
	stored := m.Pending(x.t) - x.m.Pending(x.t)
	if flushes {
		stored = 0
	}
	if stored > 1 || stored < 0 || stored == 1 && !x.i.Stores() {
		t.Fatalf("%s: %d stores", xinst.Show(x.i), stored)
	}
	if c.Thunk != x.c.Thunk && !x.i.Sets() {
		t.Fatalf("%s changes the flags", xinst.Show(x.i))
	}
	if end == api.Runs || end == api.Calls {
		return
	}
	after := x.m.Copy()
	if locked {
		after.Flush(x.t)
	}
	if c != x.c || !like(m, after) {
		t.Fatalf("%s: changed by a fault: %+v", xinst.Show(x.i), c)
	}
}

// P10.2 to P10.5: many steps of all operations, each compared with the second reading.
func TestSteps(t *testing.T) {
	d := &dice{1}
	for op := xinst.Add; op <= xinst.Ud; op++ {
		ends := map[int]int{}
		for range 1000 {
			x := round{c: d.cpu(), t: d.below(2), m: d.world()}
			if d.below(50) == 0 {
				x.t = []int{-1, 7, 8}[d.below(3)]
			}
			x.i = d.inst(op, &x.c)
			ends[x.compare(t)]++
		}
		touches := op != xinst.Lea && op != xinst.Jcc && op < xinst.Wide || op == xinst.Movs || op == xinst.Stos
		if ends[api.Runs]+ends[api.Calls]+ends[api.FaultUd] < 100 || touches && ends[api.FaultMem] < 25 {
			t.Errorf("operation %d: %v", op, ends)
		}
		if divides := op == xinst.Div || op == xinst.Sdiv; divides != (ends[api.FaultDiv] > 25) {
			t.Errorf("operation %d: %v", op, ends)
		}
	}
}

// P10.2: an instruction that is not valid does nothing.
func TestNotValid(t *testing.T) {
	d := &dice{2}
	found := 0
	for range 20000 {
		x := round{c: d.cpu(), t: d.below(2), m: d.world()}
		i := d.inst(1+d.below(xinst.Ud), &x.c)
		switch d.below(8) {
		case 0:
			i.Op = []int{0, -1, xinst.Ud + 1, math.MinInt, math.MaxInt}[d.below(5)]
		case 1:
			i.W = noWidths[d.below(len(noWidths))]
		case 2:
			i.A.Kind = d.below(7) - 1
		case 3:
			i.B.Reg = noRegs[d.below(len(noRegs))]
		case 4:
			i.Len = 16 - 17*d.below(2)
		case 5:
			i.Lock, i.Rep = d.below(2) == 0, true
		case 6:
			i.A.Addr = xinst.Addr{Base: d.below(30) - 5, Index: d.below(30) - 5, Scale: d.below(9), Disp: int64(d.word())}
		case 7:
			i.Cc, i.W2 = d.below(40)-20, d.below(10)
		}
		if xinst.May(i) {
			continue
		}
		found++
		c, m := x.c, x.m.Copy()
		if end := c.Step(x.t, i, m); end != api.FaultUd || c != x.c || !like(m, x.m) {
			t.Fatalf("%+v: %d %+v", i, end, c)
		}
	}
	if found < 10000 {
		t.Error("few that are not valid:", found)
	}
}

// P10.4: a store to a full buffer drains one store, and no more.
func TestFullBuffer(t *testing.T) {
	m, c := data(), xsem.New(ip, 4128)
	i := xinst.Inst{Op: xinst.Inc, W: 8, A: at(4096)}
	first, _ := m.Load(0, 4096, 8)
	for range 65536 {
		c.Step(0, i, m)
	}
	if v, _ := m.Load(1, 4096, 8); v != first || m.Pending(0) != 65536 {
		t.Error("a full buffer", v-first)
	}
	c.Step(0, i, m)
	if v, _ := m.Load(1, 4096, 8); v != first+1 || m.Pending(0) != 65536 {
		t.Error("beyond a full buffer", v-first)
	}
}
