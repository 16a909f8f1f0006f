package asem_test

import (
	"math/big"
	"strconv"
	"strings"
	"testing"

	"calque/a64"
	"calque/api"
	"calque/asem"
	"calque/mem"
)

// u is a word as a number without a sign, s as one with a sign.
func u(v uint64) *big.Int { return new(big.Int).SetUint64(v) }
func s(v uint64) *big.Int { return big.NewInt(int64(v)) }

// up is a number with k more bits at its lower end; down is one with k fewer.
func up(v *big.Int, k int) *big.Int   { return new(big.Int).Lsh(v, uint(k)) }
func down(v *big.Int, k int) *big.Int { return new(big.Int).Rsh(v, uint(k)) }

// low is a number modulo 2^64.
func low(v *big.Int) uint64 {
	return new(big.Int).And(v, u(all)).Uint64()
}

// text is the bits of a word, the highest first.
func text(v uint64) string {
	t := strconv.FormatUint(v, 2)
	return strings.Repeat("0", 64-len(t)) + t
}

// word is the number of a text of bits.
func word(t string) *big.Int {
	v, ok := new(big.Int).SetString(t, 2)
	if !ok {
		panic(t)
	}
	return v
}

// signed is the number of a text of bits, the first of which counts below 0.
func signed(t string) *big.Int {
	v := word(t)
	if t[0] == '1' {
		v.Sub(v, up(u(1), len(t)))
	}
	return v
}

// conditions are what each condition is of flags.
func conditions(f asem.Flags) [16]bool {
	return [16]bool{
		f.Z, !f.Z,
		f.C, !f.C,
		f.N, !f.N,
		f.V, !f.V,
		f.C && !f.Z, !f.C || f.Z,
		f.N == f.V, f.N != f.V,
		!f.Z && f.N == f.V, f.Z || f.N != f.V,
		true, true,
	}
}

// told is a cpu's state by the second reading.
type told struct {
	asem.Cpu
	end int
}

// reg is the word of a register.
func (c *told) reg(r int) uint64 {
	if r == 31 {
		return 0
	}
	return c.X[r]
}

// put writes a register.
func (c *told) put(r int, v *big.Int) {
	if r != 31 {
		c.X[r] = low(v)
	}
}

// flag sets the flags of a result.
func (c *told) flag(v *big.Int, carry, over bool) {
	t := text(low(v))
	c.Flags = asem.Flags{N: t[0] == '1', Z: !strings.Contains(t, "1"), C: carry, V: over}
}

// beyond reports whether a number with a sign is none of a word.
func beyond(v *big.Int) bool {
	return v.Cmp(s(high)) < 0 || v.Cmp(u(high)) >= 0
}

// reading is the second reading of what an instruction does, by its name in the text.
func reading(c asem.Cpu, i a64.Inst, v uint64, ok bool) (asem.Cpu, int) {
	x := &told{Cpu: c}
	next := c.Pc + 4
	name, _, _ := strings.Cut(strings.Fields(a64.Show(i))[0], ".")
	d, hold := x.reg(i.D), conditions(c.Flags)[i.Cond]
	switch name {
	case "b":
		next = c.Pc + uint64(i.Off)
	case "bcc", "cbz", "cbnz":
		if name == "bcc" && hold || name == "cbz" && d == 0 || name == "cbnz" && d != 0 {
			next = c.Pc + uint64(i.Off)
		}
	case "br":
		next = x.reg(i.N)
	case "svc":
		x.end = api.Calls
	case "brk":
		next, x.end = c.Pc, api.FaultUd
		if strings.Contains(" 1 2 3 4 5 6 ", " "+strconv.FormatUint(i.Imm, 10)+" ") {
			x.end = int(i.Imm)
		}
	case "ldr", "ldapr", "ldaxr":
		if name == "ldaxr" {
			x.Mark = asem.Access{Load: true, Ex: true, Acq: true, At: x.reg(i.N), W: i.W}
		}
		x.put(i.D, word(text(v)[64-8*i.W:]))
	case "stlxr":
		x.Mark = asem.Access{}
		x.put(i.M, u(1))
		if ok {
			x.put(i.M, u(0))
		}
	case "str", "stlr", "dmb", "nop":
	default:
		x.numbers(name, i, hold)
	}
	x.Pc = next
	return x.Cpu, x.end
}

// numbers is what an instruction does that sets D by numbers of registers and of its own.
func (c *told) numbers(name string, i a64.Inst, hold bool) {
	n, m := c.reg(i.N), c.reg(i.M)
	second := low(up(u(m), i.S))
	if strings.HasSuffix(name, "i") {
		second = i.Imm
	}
	switch name {
	case "addi", "add", "addsi", "adds":
		sum := new(big.Int).Add(u(n), u(second))
		if strings.Contains(name, "s") {
			c.flag(sum, sum.Cmp(u(all)) > 0, beyond(new(big.Int).Add(s(n), s(second))))
		}
		c.put(i.D, sum)
	case "subi", "sub", "subsi", "subs":
		less := new(big.Int).Sub(u(n), u(second))
		if strings.HasPrefix(name, "subs") {
			c.flag(less, less.Sign() >= 0, beyond(new(big.Int).Sub(s(n), s(second))))
		}
		c.put(i.D, less)
	case "and", "andi", "ands", "orr", "orri", "eor", "eori":
		both := bitwise(name[:3], n, second)
		if name == "ands" {
			c.flag(both, false, false)
		}
		c.put(i.D, both)
	case "movz":
		c.put(i.D, up(u(i.Imm), 16*i.S))
	case "movn":
		c.put(i.D, new(big.Int).Not(up(u(i.Imm), 16*i.S)))
	case "movk":
		t, at := text(c.reg(i.D)), 48-16*i.S
		c.put(i.D, word(t[:at]+text(i.Imm)[48:]+t[at+16:]))
	case "csel", "csinc":
		v := u(n)
		if !hold {
			v = new(big.Int).Add(u(m), u(uint64(len(name)-len("csel"))))
		}
		c.put(i.D, v)
	default:
		c.put(i.D, reckoned(name, i, n, m, c.reg(i.A)))
	}
}

// bitwise is a combination bit by bit.
func bitwise(name string, n, m uint64) *big.Int {
	t := make([]byte, 64)
	for k := range t {
		ones := strings.Count(text(n)[k:k+1]+text(m)[k:k+1], "1")
		is := map[string]bool{"and": ones == 2, "orr": ones > 0, "eor": ones == 1}[name]
		t[k] = '0'
		if is {
			t[k] = '1'
		}
	}
	return word(string(t))
}

// reckoned is the number that any other instruction makes of registers.
func reckoned(name string, i a64.Inst, n, m, a uint64) *big.Int {
	k := int(m % 64)
	product := new(big.Int).Mul(u(n), u(m))
	t := text(n)
	switch name {
	case "madd":
		return new(big.Int).Add(u(a), product)
	case "msub":
		return new(big.Int).Sub(u(a), product)
	case "umulh":
		return down(product, 64)
	case "smulh":
		return down(new(big.Int).Mul(s(n), s(m)), 64)
	case "udiv", "sdiv":
		if m == 0 {
			return u(0)
		}
		if name == "udiv" {
			return new(big.Int).Quo(u(n), u(m))
		}
		return new(big.Int).Quo(s(n), s(m))
	case "lslv":
		return up(u(n), k)
	case "lsrv":
		return down(u(n), k)
	case "asrv":
		return down(s(n), k)
	case "rorv":
		return word(t[64-k:] + t[:64-k])
	}
	from, more := i.R, 0
	if i.S < i.R {
		from, more = 0, 64-i.R
	}
	field := t[63-i.S : 64-from]
	if name == "ubfm" {
		return up(word(field), more)
	}
	return up(signed(field), more)
}

// dice throws numbers, the same ones each time.
type dice struct{ n uint64 }

// word is any number.
func (d *dice) word() uint64 {
	d.n = d.n*6364136223846793005 + 1442695040888963407
	x := d.n ^ d.n>>29
	return x*0x9E3779B97F4A7C15 ^ x>>31
}

// of is a number below n.
func (d *dice) of(n int) int {
	return int(d.word() >> 33 % uint64(n))
}

// number is one of those that are at some end, or any.
func (d *dice) number() uint64 {
	switch d.of(4) {
	case 0:
		return []uint64{0, 1, 2, all, all - 1, high, high - 1, high + 1, 63, 64, 65, 1 << 32, 1<<32 - 1}[d.of(13)]
	case 1:
		return d.word() >> d.of(64)
	case 2:
		return uint64(int64(d.word()) >> d.of(64))
	}
	return d.word()
}

// cpu is a thrown cpu.
func (d *dice) cpu() asem.Cpu {
	c := asem.Cpu{Pc: d.number(), Mark: asem.Access{Load: d.of(2) == 0, Ex: d.of(2) == 0, At: d.number(), W: d.of(9), V: d.word()}}
	for r := range c.X {
		c.X[r] = d.number()
	}
	if d.of(4) == 0 {
		c.X[d.of(31)] = c.X[d.of(31)]
	}
	c.N, c.Z, c.C, c.V = d.of(2) == 0, d.of(2) == 0, d.of(2) == 0, d.of(2) == 0
	return c
}

// fields are the fields that an operation has.
func fields(op int) string {
	switch {
	case op <= a64.SubsI || op >= a64.AndI && op <= a64.EorI:
		return "DNI"
	case op <= a64.Ands:
		return "DNMS"
	case op <= a64.Movk:
		return "DIS"
	case op <= a64.Msub:
		return "DNMA"
	case op <= a64.Rorv:
		return "DNM"
	case op <= a64.Sbfm:
		return "DNSR"
	case op <= a64.Csinc:
		return "DNMC"
	case op <= a64.Str:
		return "DNI"
	case op <= a64.Ldaxr:
		return "DN"
	case op == a64.Stlxr:
		return "DNM"
	case op == a64.B:
		return "O"
	case op == a64.Bcc:
		return "CO"
	case op == a64.Cbz || op == a64.Cbnz:
		return "DO"
	case op == a64.Br:
		return "N"
	case op == a64.Nop:
		return ""
	}
	return "I"
}

// accesses reports whether an operation is a load or a store.
func accesses(op int) bool {
	return op >= a64.Ldr && op <= a64.Stlxr
}

// maybe is a thrown instruction that may be valid.
func (d *dice) maybe(op int) a64.Inst {
	i := a64.Inst{Op: op, W: 8}
	if accesses(op) {
		i.W = 1 << d.of(4)
	}
	for _, letter := range fields(op) {
		switch letter {
		case 'D':
			i.D = d.of(32)
		case 'N':
			i.N = d.of(32)
		case 'M':
			i.M = []int{d.of(32), i.N}[d.of(5)/4]
		case 'A':
			i.A = d.of(32)
		case 'I':
			i.Imm = d.immediate(op, uint64(i.W))
		case 'S':
			i.S = []int{d.of(64), d.of(4)}[d.of(2)]
		case 'R':
			i.R = []int{d.of(64), i.S}[d.of(5)/4]
		case 'C':
			i.Cond = d.of(16)
		case 'O':
			i.Off = int64(d.word()) >> (43 + d.of(20)) << 2
		}
	}
	return i
}

// immediate is a thrown number for an operation.
func (d *dice) immediate(op int, w uint64) uint64 {
	switch {
	case op <= a64.SubsI:
		return uint64(d.of(4096))
	case op <= a64.EorI:
		size := 2 << d.of(6)
		ones := up(u(1), 1+d.of(size-1))
		t := text(ones.Sub(ones, u(1)).Uint64())[64-size:]
		turn := d.of(size)
		return low(word(strings.Repeat(t[turn:]+t[:turn], 64/size)))
	case accesses(op):
		return uint64(d.of(4096)) * w
	case op == a64.Dmb:
		return uint64(9 + d.of(3))
	case op == a64.Brk:
		return uint64(d.of(9))
	}
	return uint64(d.of(65536))
}

// inst is a thrown instruction that is valid.
func (d *dice) inst(op int) a64.Inst {
	for {
		if i := d.maybe(op); a64.May(i) {
			return i
		}
	}
}

// P22.2, P22.4: thrown instructions of all operations do to thrown cpus what the second reading says, and nothing else.
func TestReading(t *testing.T) {
	d := dice{22}
	for k := range 200000 {
		i := d.inst(1 + k%a64.Nop)
		c := d.cpu()
		v, ok := d.word(), d.of(2) == 0
		before := c
		want, end := reading(c, i, v, ok)
		if got := c.Done(i, v, ok); got != end || c != want {
			t.Fatalf("%s of %+v with %X, %t is %d, %+v, want %d, %+v", a64.Show(i), before, v, ok, got, c, end, want)
		}
	}
}

// P22.4: an instruction changes only D (and M for Stlxr), the flags if it sets them, Pc and Mark.
func TestChanges(t *testing.T) {
	d := dice{4}
	sets := map[int]bool{a64.AddsI: true, a64.SubsI: true, a64.Adds: true, a64.Subs: true, a64.Ands: true}
	for k := range 100000 {
		i := d.inst(1 + k%a64.Nop)
		c := d.cpu()
		before := c
		c.Done(i, d.word(), d.of(2) == 0)
		changed := i.D
		if i.Op == a64.Stlxr {
			changed = i.M
		}
		for r := range c.X {
			if c.X[r] != before.X[r] && r != changed {
				t.Fatalf("%s changes register %d", a64.Show(i), r)
			}
		}
		if c.Flags != before.Flags && !sets[i.Op] {
			t.Fatalf("%s changes the flags", a64.Show(i))
		}
		if c.Mark != before.Mark && i.Op != a64.Ldaxr && i.Op != a64.Stlxr {
			t.Fatalf("%s changes the mark", a64.Show(i))
		}
	}
}

// stepped is the second reading of a step: what the document says of memory, done to a copy of it.
func stepped(c asem.Cpu, thread int, i a64.Inst, m *mem.Mem, fails bool) (asem.Cpu, int) {
	name := strings.Fields(a64.Show(i))[0]
	at := c.Get(i.N)
	if strings.HasPrefix(name, "ldr.") || strings.HasPrefix(name, "str.") {
		at += i.Imm
	}
	v, ok := uint64(0), false
	switch {
	case strings.HasPrefix(name, "ld"):
		if v, ok = m.Load(thread, at, i.W); !ok {
			return c, api.FaultMem
		}
	case strings.HasPrefix(name, "st"):
		if !m.May(thread, at, i.W, true) {
			return c, api.FaultMem
		}
		if ok = !strings.HasPrefix(name, "stlxr") || !fails && c.Mark.Load && c.Mark.At == at && c.Mark.W == i.W; ok {
			m.Put(thread, at, i.W, c.Get(i.D))
		}
	}
	return reading(c, i, v, ok)
}

// thrown is memory with stores of several threads in their buffers.
func (d *dice) thrown() *mem.Mem {
	data := func(n int) []byte {
		b := make([]byte, n)
		for k := range b {
			b[k] = byte(d.word())
		}
		return b
	}
	m := mem.New(
		mem.Area{Lo: 1000, Data: data(40), Write: true},
		mem.Area{Lo: 1040, Data: data(8)},
		mem.Area{Lo: 1048, Data: data(16), Write: true, Private: true},
	)
	m.Own(d.of(3), 2)
	for range d.of(6) {
		m.Store(d.of(3), uint64(1000+d.of(64)), 1<<d.of(4), d.word())
	}
	return m
}

// alike reports whether two memories are the same for all threads.
func alike(a, b *mem.Mem) bool {
	for thread := range 3 {
		if a.Pending(thread) != b.Pending(thread) {
			return false
		}
		for at := uint64(1000); at < 1064; at++ {
			v, ok := a.Load(thread, at, 1)
			w, may := b.Load(thread, at, 1)
			if v != w || ok != may {
				return false
			}
		}
	}
	return a.Same(b)
}

// P22.3: thrown steps, mostly of loads and stores, do to cpus and to memory what the second reading says.
func TestStepReading(t *testing.T) {
	d := dice{23}
	ends := map[int]int{}
	stored := [2]int{}
	for range 60000 {
		i := d.inst(a64.Ldr + d.of(6))
		if d.of(10) == 0 {
			i = d.inst(1 + d.of(a64.Nop))
		}
		if i.Op == a64.Ldr || i.Op == a64.Str {
			i.Imm %= 64
		}
		c := d.cpu()
		if i.N < 31 {
			c.X[i.N] = uint64(996 + d.of(70))
		}
		if d.of(4) > 0 {
			c.Mark = asem.Access{Load: d.of(8) > 0, At: c.Get(i.N) + uint64(d.of(8)/7), W: i.W}
		}
		m := d.thrown()
		thread, fails := d.of(3), d.of(3) == 0
		copied, before := m.Copy(), c
		want, end := stepped(c, thread, i, copied, fails)
		got := c.Step(thread, i, m, fails)
		if got != end || c != want || !alike(m, copied) {
			t.Fatalf("%s of %+v by %d, %t is %d, %+v, want %d, %+v", a64.Show(i), before, thread, fails, got, c, end, want)
		}
		ends[end]++
		if i.Op == a64.Stlxr && end == api.Runs {
			stored[c.Get(i.M)]++
		}
	}
	if ends[api.Runs] < 10000 || ends[api.FaultMem] < 5000 || stored[0] < 500 || stored[1] < 500 {
		t.Errorf("%v, %v: too few to tell", ends, stored)
	}
}
