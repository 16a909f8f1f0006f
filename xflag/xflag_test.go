package xflag_test

import (
	"math"
	"math/big"
	"math/bits"
	"slices"
	"testing"

	"calque/xflag"
	"calque/xinst"
)

// Thunk is short for the package's.
type Thunk = xflag.Thunk

// dice are numbers that look as if they were thrown, always the same ones.
type dice struct{ n uint64 }

func (d *dice) word() uint64 {
	d.n = d.n*6364136223846793005 + 1442695040888963407
	x := d.n ^ d.n>>29
	return x*0x9E3779B97F4A7C15 ^ x>>31
}

func (d *dice) below(n int) int { return int(d.word() >> 33 % uint64(n)) }

func (d *dice) thunk() Thunk {
	return Thunk{d.below(2) == 1, d.below(2) == 1, d.word()}
}

var widths = []int{1, 2, 4, 8}

var noWidths = []int{0, -1, 3, 5, 6, 7, 9, 16, 32, 64, math.MinInt, math.MaxInt}

// number is one of a width, often one at an edge, with anything above it.
func (d *dice) number(w int) uint64 {
	m := uint(8 * w)
	v := d.word()
	switch d.below(4) {
	case 0:
		v = uint64(d.below(5)) - 2
	case 1:
		v = 1<<(m-1) + uint64(d.below(5)) - 2
	case 2:
		v = v >> d.below(64)
	}
	if w == 8 {
		return v
	}
	return v&(1<<m-1) | d.word()<<m
}

// low is the unsigned number of a width, by shifts.
func low(v uint64, w int) uint64 {
	n := 64 - 8*w
	return v << n >> n
}

// ext is the sign-extended number of a width, by shifts.
func ext(v uint64, w int) uint64 {
	n := 64 - 8*w
	return uint64(int64(v<<n) >> n)
}

// unsigned and signed are the numbers of a width without bounds.
func unsigned(v uint64, w int) *big.Int { return new(big.Int).SetUint64(low(v, w)) }
func signed(v uint64, w int) *big.Int   { return big.NewInt(int64(ext(v, w))) }

// power is 2^n.
func power(n int) *big.Int { return new(big.Int).Lsh(big.NewInt(1), uint(n)) }

// is reports whether a number is an unsigned or a signed one of a width.
func is(v *big.Int, sign bool, w int) bool {
	if !sign {
		return v.Sign() >= 0 && v.Cmp(power(8*w)) < 0
	}
	half := power(8*w - 1)
	return v.Cmp(half) < 0 && v.Cmp(new(big.Int).Neg(half)) >= 0
}

// part is the number of w bytes that begins at bit at, in two's complement.
func part(v *big.Int, at, w int) uint64 {
	v = new(big.Int).Rsh(v, uint(at))
	return v.Mod(v, power(8*w)).Uint64()
}

// combined is what Two must return for sums and differences.
func combined(minus bool, a, b uint64, in bool, w int) (uint64, Thunk) {
	one := big.NewInt(0)
	if in {
		one.SetInt64(1)
	}
	do := func(x, y *big.Int) *big.Int {
		if minus {
			return x.Sub(x, y).Sub(x, one)
		}
		return x.Add(x, y).Add(x, one)
	}
	u, s := do(unsigned(a, w), unsigned(b, w)), do(signed(a, w), signed(b, w))
	r := part(u, 0, w)
	return r, Thunk{!is(u, false, w), !is(s, true, w), ext(r, w)}
}

// two is what Two must return.
func two(op int, a, b uint64, t Thunk, w int) (uint64, Thunk) {
	r := uint64(0)
	switch op {
	case xinst.Add:
		return combined(false, a, b, false, w)
	case xinst.Adc:
		return combined(false, a, b, t.C, w)
	case xinst.Sub, xinst.Cmp:
		return combined(true, a, b, false, w)
	case xinst.Sbb:
		return combined(true, a, b, t.C, w)
	case xinst.And, xinst.Test:
		r = a & b
	case xinst.Or:
		r = a | b
	case xinst.Xor:
		r = a ^ b
	default:
		return 0, t
	}
	return low(r, w), Thunk{false, false, ext(r, w)}
}

// one is what One must return.
func one(op int, a uint64, t Thunk, w int) (uint64, Thunk) {
	switch op {
	case xinst.Not:
		return low(^a, w), t
	case xinst.Neg:
		return combined(true, 0, a, false, w)
	case xinst.Inc, xinst.Dec:
		r, u := combined(op == xinst.Dec, a, 1, false, w)
		u.C = t.C
		return r, u
	}
	return 0, t
}

// turn is what Turn must return: the bits are moved by one place at a time.
func turn(op int, a uint64, n int64, t Thunk, w int) (uint64, Thunk) {
	m := 8 * w
	if !slices.Contains([]int{xinst.Shl, xinst.Shr, xinst.Sar, xinst.Rol, xinst.Ror}, op) {
		return 0, t
	}
	l := make([]bool, m) // the lowest bit first
	for k := range l {
		l[k] = a>>k&1 == 1
	}
	top := l[m-1]
	k := int(uint64(n) % 32)
	if w == 8 {
		k = int(uint64(n) % 64)
	}
	if k == 0 {
		return low(a, w), t
	}
	out := false
	for range k {
		switch op {
		case xinst.Shl:
			out, l = l[m-1], append([]bool{false}, l[:m-1]...)
		case xinst.Shr:
			out, l = l[0], append(l[1:], false)
		case xinst.Sar:
			out, l = l[0], append(l[1:], l[m-1])
		case xinst.Rol:
			l = append([]bool{l[m-1]}, l[:m-1]...)
			out = l[0]
		case xinst.Ror:
			l = append(l[1:], l[0])
			out = l[m-1]
		}
	}
	r := uint64(0)
	for k, on := range l {
		if on {
			r |= 1 << k
		}
	}
	u := Thunk{out, false, ext(r, w)}
	switch op {
	case xinst.Shl:
		u.O = l[m-1] != out
	case xinst.Shr:
		u.O = top
	case xinst.Rol:
		u.O, u.Res = l[m-1] != out, t.Res
	case xinst.Ror:
		u.O, u.Res = l[m-1] != l[m-2], t.Res
	}
	return r, u
}

// product is what Product must return.
func product(a, b uint64, sign bool, w int) (uint64, uint64, Thunk) {
	p := new(big.Int).Mul(unsigned(a, w), unsigned(b, w))
	if sign {
		p.Mul(signed(a, w), signed(b, w))
	}
	over := !is(p, sign, w)
	r := part(p, 0, w)
	return r, part(p, 8*w, w), Thunk{over, over, ext(r, w)}
}

// quotient is what Quotient must return.
func quotient(hi, lo, d uint64, sign bool, w int) (uint64, uint64, bool) {
	n := new(big.Int).Lsh(unsigned(hi, w), uint(8*w))
	by := unsigned(d, w)
	if sign {
		n.Lsh(signed(hi, w), uint(8*w))
		by = signed(d, w)
	}
	n.Add(n, unsigned(lo, w))
	if w == 8 || by.Sign() == 0 {
		return 0, 0, false
	}
	q, r := new(big.Int).QuoRem(n, by, new(big.Int))
	if !is(q, sign, w) {
		return 0, 0, false
	}
	return part(q, 0, w), part(r, 0, w), true
}

func name(op int) string { return xinst.Show(xinst.Inst{Op: op, W: 4, A: xinst.R(0), B: xinst.R(1)}) }

// checkTwo compares Two with its rule.
func checkTwo(t *testing.T, op int, a, b uint64, in Thunk, w int) {
	t.Helper()
	r, u := xflag.Two(op, a, b, in, w)
	if r2, u2 := two(op, a, b, in, w); r != r2 || u != u2 {
		t.Fatalf("Two(%d %s, %x, %x, %v, %d): %x %v, not %x %v", op, name(op), a, b, in, w, r, u, r2, u2)
	}
}

// checkOne compares One with its rule.
func checkOne(t *testing.T, op int, a uint64, in Thunk, w int) {
	t.Helper()
	r, u := xflag.One(op, a, in, w)
	if r2, u2 := one(op, a, in, w); r != r2 || u != u2 {
		t.Fatalf("One(%d, %x, %v, %d): %x %v, not %x %v", op, a, in, w, r, u, r2, u2)
	}
}

// checkTurn compares Turn with its rule.
func checkTurn(t *testing.T, op int, a uint64, n int64, in Thunk, w int) {
	t.Helper()
	r, u := xflag.Turn(op, a, n, in, w)
	if r2, u2 := turn(op, a, n, in, w); r != r2 || u != u2 {
		t.Fatalf("Turn(%d, %x, %d, %v, %d): %x %v, not %x %v", op, a, n, in, w, r, u, r2, u2)
	}
}

// checkProduct compares Product with its rule.
func checkProduct(t *testing.T, a, b uint64, sign bool, w int) {
	t.Helper()
	lo, hi, u := xflag.Product(a, b, sign, w)
	if lo2, hi2, u2 := product(a, b, sign, w); lo != lo2 || hi != hi2 || u != u2 {
		t.Fatalf("Product(%x, %x, %v, %d): %x %x %v, not %x %x %v", a, b, sign, w, lo, hi, u, lo2, hi2, u2)
	}
}

// checkQuotient compares Quotient with its rule.
func checkQuotient(t *testing.T, hi, lo, d uint64, sign bool, w int) {
	t.Helper()
	q, r, ok := xflag.Quotient(hi, lo, d, sign, w)
	if q2, r2, ok2 := quotient(hi, lo, d, sign, w); q != q2 || r != r2 || ok != ok2 {
		t.Fatalf("Quotient(%x, %x, %x, %v, %d): %x %x %v, not %x %x %v", hi, lo, d, sign, w, q, r, ok, q2, r2, ok2)
	}
}

// twos, ones and turns are the operations of Two, One and Turn.
var (
	twos  = []int{xinst.Add, xinst.Adc, xinst.Sub, xinst.Sbb, xinst.Cmp, xinst.And, xinst.Or, xinst.Xor, xinst.Test}
	ones  = []int{xinst.Not, xinst.Neg, xinst.Inc, xinst.Dec}
	turns = []int{xinst.Shl, xinst.Shr, xinst.Sar, xinst.Rol, xinst.Ror}
)

// P8.1: the flags that a result tells.
func TestResultFlags(t *testing.T) {
	check := func(res uint64) {
		u := Thunk{Res: res}
		if u.Zero() != (res == 0) || u.Sign() != (int64(res) < 0) || u.Even() != (bits.OnesCount8(uint8(res))%2 == 0) {
			t.Errorf("%x: %v %v %v", res, u.Zero(), u.Sign(), u.Even())
		}
	}
	d := &dice{1}
	for k := range uint64(256) {
		check(k)
		check(k | 0xA5<<56)
		check(k << 8)
		check(k << 24)
		check(k << 56)
		check(d.word())
	}
}

// P8.1, P8.8: all conditions, with all flags.
func TestCond(t *testing.T) {
	// Results that tell Z, S and P; Z excludes S and what is not P.
	for _, res := range []uint64{0, 1, 3, 1 << 63, 1<<63 | 1, 0x7FFFFFFFFFFFFFFF, 0xFF, 0xFE, 256} {
		for set := range 4 {
			u := Thunk{set&1 != 0, set&2 != 0, res}
			z, s, p := res == 0, res>>63 == 1, bits.OnesCount8(uint8(res))%2 == 0
			for k, want := range []bool{u.O, u.C, z, u.C || z, s, p, s != u.O, z || s != u.O} {
				if u.Cond(2*k) != want || u.Cond(2*k+1) == want {
					t.Errorf("%v: condition %d is not %v", u, 2*k, want)
				}
			}
			for _, cc := range []int{-1, -2, -15, -16, 16, 17, 32, math.MinInt, math.MaxInt, math.MinInt + 1} {
				if u.Cond(cc) {
					t.Errorf("%v: condition %d", u, cc)
				}
			}
		}
	}
}

// P8.1: each flag has its bit.
func TestPack(t *testing.T) {
	for _, c := range []struct {
		t    Thunk
		want uint64
	}{
		{Thunk{Res: 1}, 514},
		{Thunk{C: true, Res: 1}, 514 + 1},
		{Thunk{Res: 3}, 514 + 4},
		{Thunk{}, 514 + 4 + 64},
		{Thunk{Res: 1<<63 | 1}, 514 + 128},
		{Thunk{Res: 1 << 63}, 514 + 4 + 128},
		{Thunk{O: true, Res: 1}, 514 + 2048},
		{Thunk{C: true, O: true}, 514 + 1 + 4 + 64 + 2048},
		{Thunk{C: true, O: true, Res: math.MaxUint64}, 514 + 1 + 4 + 128 + 2048},
	} {
		if got := c.t.Pack(); got != c.want {
			t.Errorf("%v: %d, not %d", c.t, got, c.want)
		}
	}
}

// P8.2, P8.6: all numbers of one byte, with and without a carry.
func TestTwoBytes(t *testing.T) {
	for _, op := range twos {
		for a := range uint64(256) {
			for b := range uint64(256) {
				checkTwo(t, op, a, b, Thunk{a&1 != 0, b&1 != 0, a}, 1)
				checkTwo(t, op, a, b, Thunk{a&1 == 0, b&1 == 0, b}, 1)
			}
		}
	}
}

// P8.2, P8.6: numbers of all widths, whatever stands above them.
func TestTwo(t *testing.T) {
	d := &dice{2}
	for _, w := range widths {
		for _, op := range twos {
			for range 3000 {
				checkTwo(t, op, d.number(w), d.number(w), d.thunk(), w)
			}
		}
	}
}

// P8.3, P8.6: all numbers of one byte, and some of all widths.
func TestOne(t *testing.T) {
	d := &dice{3}
	for _, op := range ones {
		for a := range uint64(256) {
			for set := range 4 {
				checkOne(t, op, a, Thunk{set&1 != 0, set&2 != 0, a ^ 77}, 1)
			}
		}
		for _, w := range widths {
			for range 3000 {
				checkOne(t, op, d.number(w), d.thunk(), w)
			}
		}
	}
}

// P8.4, P8.6: all numbers of one byte by all counts; numbers of all widths by all counts, and by what is the same as one.
func TestTurn(t *testing.T) {
	d := &dice{4}
	for _, op := range turns {
		for n := range int64(64) {
			for a := range uint64(256) {
				checkTurn(t, op, a, n, d.thunk(), 1)
			}
			for _, w := range widths {
				for range 40 {
					a, in := d.number(w), d.thunk()
					checkTurn(t, op, a, n, in, w)
					checkTurn(t, op, a, int64(d.word())<<6|n, in, w)
				}
			}
		}
		for _, n := range []int64{-1, -31, -32, -33, -63, -64, -65, 255, 256, math.MinInt64, math.MaxInt64} {
			for _, w := range widths {
				checkTurn(t, op, d.number(w), n, d.thunk(), w)
			}
		}
	}
}

// P8.5: products of all numbers of one byte, and of some of all widths.
func TestProduct(t *testing.T) {
	d := &dice{5}
	for _, sign := range []bool{false, true} {
		for a := range uint64(256) {
			for b := range uint64(256) {
				checkProduct(t, a, b, sign, 1)
			}
		}
		for _, w := range widths {
			for range 20000 {
				checkProduct(t, d.number(w), d.number(w), sign, w)
			}
		}
	}
}

// P8.5: all numbers of two bytes by all of one, and some of greater widths.
func TestQuotient(t *testing.T) {
	d := &dice{6}
	for _, sign := range []bool{false, true} {
		for n := range uint64(1 << 16) {
			for _, by := range []uint64{n & 255, n >> 8, n * 31 >> 4 & 255, 0, 1, 2, 127, 128, 129, 255} {
				checkQuotient(t, n>>8, n, by, sign, 1)
			}
		}
		for _, w := range widths {
			for range 20000 {
				hi, lo, by := d.number(w), d.number(w), d.number(w)
				checkQuotient(t, hi, lo, by, sign, w)
				// Above, few quotients are numbers of the width.
				checkQuotient(t, 0, lo, by, sign, w)
				checkQuotient(t, math.MaxUint64, lo, by, sign, w)
				checkQuotient(t, by>>1&(1<<(8*w-2)-1), lo, by, sign, w)
			}
			least := uint64(1) << (8*w - 1)
			for _, hi := range []uint64{0, 1, least - 1, least, least + 1, math.MaxUint64} {
				for _, lo := range []uint64{0, 1, least - 1, least, least + 1, math.MaxUint64} {
					for _, by := range []uint64{0, 1, 2, least - 1, least, least + 1, math.MaxUint64, math.MaxUint64 << (8*w - 1) << 1} {
						checkQuotient(t, hi, lo, by, sign, w)
					}
				}
			}
		}
	}
}

// P8.7: the quotient times d plus the remainder is the dividend, computed with words.
func TestQuotientInverts(t *testing.T) {
	d := &dice{7}
	found := 0
	for range 100000 {
		w := []int{1, 2, 4}[d.below(3)]
		hi, lo, by := d.number(w), d.number(w), d.number(w)
		n := low(hi, w)<<(8*w) | low(lo, w)
		if q, r, ok := xflag.Quotient(hi, lo, by, false, w); ok {
			found++
			if q*low(by, w)+r != n || r >= low(by, w) || q != low(q, w) {
				t.Fatalf("%x / %x: %x %x", n, by, q, r)
			}
		}
		if q, r, ok := xflag.Quotient(hi, lo, by, true, w); ok {
			found++
			sn, sr := ext(n, min(2*w, 8)), ext(r, w)
			if ext(q, w)*ext(by, w)+sr != sn || sr != 0 && sr>>63 != sn>>63 || q != low(q, w) || r != low(r, w) {
				t.Fatalf("signed %x / %x: %x %x", n, by, q, r)
			}
		}
	}
	if found < 10000 {
		t.Error("few quotients:", found)
	}
}

// What is no width, and what is no operation of a function.
func TestNone(t *testing.T) {
	d := &dice{8}
	for _, w := range noWidths {
		a, b, u := d.word(), d.word(), d.thunk()
		for op := -1; op <= xinst.Ud+1; op++ {
			if r, v := xflag.Two(op, a, b, u, w); r != 0 || v != u {
				t.Errorf("Two of width %d: %x %v", w, r, v)
			}
			if r, v := xflag.One(op, a, u, w); r != 0 || v != u {
				t.Errorf("One of width %d: %x %v", w, r, v)
			}
			for _, n := range []int64{0, 1, 32} {
				if r, v := xflag.Turn(op, a, n, u, w); r != 0 || v != u {
					t.Errorf("Turn of width %d: %x %v", w, r, v)
				}
			}
		}
		for _, sign := range []bool{false, true} {
			if lo, hi, v := xflag.Product(a, b, sign, w); lo != 0 || hi != 0 || v != (Thunk{}) {
				t.Errorf("Product of width %d: %x %x %v", w, lo, hi, v)
			}
			if q, r, ok := xflag.Quotient(0, b, 1, sign, w); q != 0 || r != 0 || ok {
				t.Errorf("Quotient of width %d: %x %x %v", w, q, r, ok)
			}
		}
	}
	for op := -2; op <= xinst.Ud+2; op++ {
		for _, w := range widths {
			a, b, u := d.word(), d.word(), d.thunk()
			checkTwo(t, op, a, b, u, w)
			checkOne(t, op, a, u, w)
			checkTurn(t, op, a, 0, u, w)
			checkTurn(t, op, a, 3, u, w)
		}
	}
	for _, op := range []int{math.MinInt, math.MaxInt, 1000} {
		u := d.thunk()
		checkTwo(t, op, 1, 2, u, 4)
		checkOne(t, op, 1, u, 4)
		checkTurn(t, op, 1, 2, u, 4)
	}
}

// result is what a function returns.
type result struct {
	r, hi uint64
	t     Thunk
}

func ofTwo(op int, a, b uint64, t Thunk, w int) result {
	r, u := xflag.Two(op, a, b, t, w)
	return result{r, 0, u}
}

func ofOne(op int, a uint64, t Thunk, w int) result {
	r, u := xflag.One(op, a, t, w)
	return result{r, 0, u}
}

func ofTurn(op int, a uint64, n int64, t Thunk, w int) result {
	r, u := xflag.Turn(op, a, n, t, w)
	return result{r, 0, u}
}

func ofProduct(a, b uint64, sign bool, w int) result {
	lo, hi, u := xflag.Product(a, b, sign, w)
	return result{lo, hi, u}
}

// Results by hand, the document's examples among them.
func TestByHand(t *testing.T) {
	const all = math.MaxUint64
	in := Thunk{true, false, 7}
	for _, c := range []struct {
		what      string
		got, want result
	}{
		{"sub", ofTwo(xinst.Sub, 3, 5, in, 1), result{254, 0, Thunk{true, false, all - 1}}},
		{"cmp", ofTwo(xinst.Cmp, 5, 5, in, 4), result{}},
		{"add over", ofTwo(xinst.Add, 0x7F, 1, in, 1), result{0x80, 0, Thunk{false, true, all &^ 0x7F}}},
		{"adc", ofTwo(xinst.Adc, 0x7F, 0, in, 1), result{0x80, 0, Thunk{false, true, all &^ 0x7F}}},
		{"adc carry", ofTwo(xinst.Adc, all, 0, in, 8), result{0, 0, Thunk{true, false, 0}}},
		{"sbb", ofTwo(xinst.Sbb, 0, 0, in, 2), result{0xFFFF, 0, Thunk{true, false, all}}},
		{"test", ofTwo(xinst.Test, 0x1F0, 0x180, in, 1), result{0x80, 0, Thunk{false, false, all &^ 0x7F}}},
		{"and", ofTwo(xinst.And, 0x1F0, 0x180, in, 4), result{0x180, 0, Thunk{false, false, 0x180}}},
		{"or", ofTwo(xinst.Or, 1<<63, 1, in, 8), result{1<<63 | 1, 0, Thunk{false, false, 1<<63 | 1}}},
		{"xor", ofTwo(xinst.Xor, 0xFF, 0xF0, in, 1), result{0x0F, 0, Thunk{false, false, 0x0F}}},
		{"neg", ofOne(xinst.Neg, 0x80, in, 1), result{0x80, 0, Thunk{true, true, all &^ 0x7F}}},
		{"neg 0", ofOne(xinst.Neg, 0x100, in, 1), result{}},
		{"inc", ofOne(xinst.Inc, 0xFF, in, 1), result{0, 0, Thunk{true, false, 0}}},
		{"dec", ofOne(xinst.Dec, 0x80, Thunk{}, 1), result{0x7F, 0, Thunk{false, true, 0x7F}}},
		{"not", ofOne(xinst.Not, 0xFF, in, 2), result{0xFF00, 0, in}},
		{"shl", ofTurn(xinst.Shl, 129, 1, in, 1), result{2, 0, Thunk{true, true, 2}}},
		{"shl all", ofTurn(xinst.Shl, 129, 8, Thunk{}, 1), result{0, 0, Thunk{true, true, 0}}},
		{"shl more", ofTurn(xinst.Shl, 129, 9, in, 1), result{}},
		{"shl 32", ofTurn(xinst.Shl, 0x181, 32, in, 1), result{0x81, 0, in}},
		{"shl 64", ofTurn(xinst.Shl, 129, 64, in, 8), result{129, 0, in}},
		{"shr", ofTurn(xinst.Shr, 128, 8, in, 1), result{0, 0, Thunk{true, true, 0}}},
		{"shr more", ofTurn(xinst.Shr, 128, 9, in, 1), result{0, 0, Thunk{false, true, 0}}},
		{"sar", ofTurn(xinst.Sar, 128, 9, Thunk{O: true}, 1), result{255, 0, Thunk{true, false, all}}},
		{"sar 63", ofTurn(xinst.Sar, 1<<63, -1, in, 8), result{all, 0, Thunk{false, false, all}}},
		{"rol", ofTurn(xinst.Rol, 129, 8, Thunk{Res: 7}, 1), result{129, 0, Thunk{true, false, 7}}},
		{"rol 1", ofTurn(xinst.Rol, 0x40, 1, in, 1), result{0x80, 0, Thunk{false, true, 7}}},
		{"ror", ofTurn(xinst.Ror, 1, 1, Thunk{Res: 7}, 1), result{128, 0, Thunk{true, true, 7}}},
		{"ror 2", ofTurn(xinst.Ror, 1, 2, in, 1), result{64, 0, Thunk{false, true, 7}}},
		{"mul", ofProduct(255, 255, false, 1), result{1, 254, Thunk{true, true, 1}}},
		{"smul", ofProduct(255, 255, true, 1), result{1, 0, Thunk{false, false, 1}}},
		{"smul least", ofProduct(128, 1, true, 1), result{128, 255, Thunk{false, false, all &^ 0x7F}}},
		{"smul over", ofProduct(128, 255, true, 1), result{128, 0, Thunk{true, true, all &^ 0x7F}}},
		{"mul 8", ofProduct(1<<63, 2, false, 8), result{0, 1, Thunk{true, true, 0}}},
		{"smul 8", ofProduct(all, 2, true, 8), result{all - 1, all, Thunk{false, false, all - 1}}},
	} {
		if c.got != c.want {
			t.Errorf("%s: %+v, not %+v", c.what, c.got, c.want)
		}
	}
}

// Quotients by hand, the document's example among them.
func TestQuotientByHand(t *testing.T) {
	const all = math.MaxUint64
	for _, c := range []struct {
		hi, lo, d uint64
		sign      bool
		w         int
		q, r      uint64
		ok        bool
	}{
		{1, 0, 2, false, 1, 128, 0, true},
		{1, 0, 1, false, 1, 0, 0, false},
		{0, 7, 0, false, 4, 0, 0, false},
		{0, 7, 0x100, false, 1, 0, 0, false},
		{0xFF, 0xF9, 2, true, 1, 0xFD, 0xFF, true},           // -7 / 2
		{0, 7, 0xFE, true, 1, 0xFD, 1, true},                 // 7 / -2
		{0, 128, 0xFF, true, 1, 128, 0, true},                // 128 / -1
		{0xFF, 128, 0xFF, true, 1, 0, 0, false},              // -128 / -1
		{1 << 31, 0, all, true, 4, 0, 0, false},              // -2^63 / -1
		{1 << 31, 0, 1 << 31, true, 4, 0, 0, false},          // -2^63 / -2^31
		{1<<30 - 1, 0, 1 << 31, true, 4, 1<<31 + 2, 0, true}, // (2^30 - 1) * 2^32 / -2^31
		{1, 1, 2, false, 4, 1 << 31, 1, true},
		{0, 6, 2, false, 8, 0, 0, false},
		{0, 6, 2, true, 8, 0, 0, false},
	} {
		if q, r, ok := xflag.Quotient(c.hi, c.lo, c.d, c.sign, c.w); q != c.q || r != c.r || ok != c.ok {
			t.Errorf("%x %x / %x, %v, %d: %x %x %v, not %x %x %v", c.hi, c.lo, c.d, c.sign, c.w, q, r, ok, c.q, c.r, c.ok)
		}
	}
}
