package bits_test

import (
	"math"
	"math/big"
	"testing"

	"calque/bits"
)

var widths = []int{1, 2, 4, 8}

// noWidths lie between and beside the widths, or are one only after a conversion, a shift or a remainder went wrong.
var noWidths = []int{
	0, 3, 5, 6, 7, 9, 10, 12, 15, 16, 24, 32, 64, 128, 256, 257, 258, 260, 264,
	-1, -2, -4, -8, -16, 1 << 32, 1<<32 + 1, 1<<32 + 4, 1<<61 + 1, math.MaxInt, math.MaxInt - 7, math.MinInt, math.MinInt + 8,
}

// words are numbers at both ends of every width, with and without bits above it.
func words() []uint64 {
	l := []uint64{0, 1, 2, 3, 5, 0x0123456789ABCDEF, 0xFEDCBA9876543210, 0xAAAAAAAAAAAAAAAA, 0x5555555555555555, 0x8080808080808080, 0x00FF00FF00FF00FF, 0x123456780000007F}
	for k := 4; k <= 64; k += 4 {
		top := uint64(1) << (k - 1)
		for _, v := range []uint64{top - 1, top, top + 1, 2*top - 1, 2 * top, 2*top + 1} {
			l = append(l, v, ^v)
		}
	}
	return l
}

// unsigned and signed are the numbers of a width, taken bit by bit from what the document says.
func unsigned(v uint64, w int) *big.Int {
	n := new(big.Int).SetUint64(v)
	return n.Mod(n, span(w))
}

func signed(v uint64, w int) *big.Int {
	n := unsigned(v, w)
	if n.Bit(8*w-1) == 1 {
		n.Sub(n, span(w))
	}
	return n
}

// span is 2^8w.
func span(w int) *big.Int {
	return new(big.Int).Lsh(big.NewInt(1), uint(8*w))
}

// word is a number modulo 2^8w.
func word(n *big.Int, w int) uint64 {
	return new(big.Int).Mod(n, span(w)).Uint64()
}

func isUnsigned(n *big.Int, w int) bool {
	return n.Sign() >= 0 && n.Cmp(span(w)) < 0
}

func isSigned(n *big.Int, w int) bool {
	half := new(big.Int).Rsh(span(w), 1)
	return n.Cmp(half) < 0 && n.Cmp(new(big.Int).Neg(half)) >= 0
}

func number(in bool) *big.Int {
	if in {
		return big.NewInt(1)
	}
	return big.NewInt(0)
}

// P1.1

func TestWidths(t *testing.T) {
	for _, w := range widths {
		if !bits.Is(w) {
			t.Errorf("Is(%d) is false", w)
		}
	}
	for _, w := range noWidths {
		if bits.Is(w) {
			t.Errorf("Is(%d) is true", w)
		}
	}
	for w := -300; w <= 300; w++ {
		if want := w == 1 || w == 2 || w == 4 || w == 8; bits.Is(w) != want {
			t.Errorf("Is(%d) is %v", w, !want)
		}
	}
}

func TestMask(t *testing.T) {
	for w, want := range map[int]uint64{1: 0xFF, 2: 0xFFFF, 4: 0xFFFFFFFF, 8: 0xFFFFFFFFFFFFFFFF} {
		if got := bits.Mask(w); got != want {
			t.Errorf("Mask(%d) = %x", w, got)
		}
	}
}

func TestExtend(t *testing.T) {
	for _, w := range widths {
		for _, v := range words() {
			if got, want := bits.Zx(v, w), unsigned(v, w).Uint64(); got != want {
				t.Errorf("Zx(%x, %d) = %x, want %x", v, w, got, want)
			}
			if got, want := bits.Sx(v, w), word(signed(v, w), 8); got != want {
				t.Errorf("Sx(%x, %d) = %x, want %x", v, w, got, want)
			}
			if got, want := bits.Neg(v, w), signed(v, w).Sign() < 0; got != want {
				t.Errorf("Neg(%x, %d) = %v", v, w, got)
			}
		}
	}
}

func TestExtendByHand(t *testing.T) {
	for _, c := range []struct {
		v      uint64
		w      int
		zx, sx uint64
		neg    bool
	}{
		{0x17F, 1, 0x7F, 0x7F, false},
		{0x180, 1, 0x80, 0xFFFFFFFFFFFFFF80, true},
		{128, 1, 128, 1<<64 - 128, true},
		{0xABCD7FFF, 2, 0x7FFF, 0x7FFF, false},
		{0x8000, 2, 0x8000, 0xFFFFFFFFFFFF8000, true},
		{0xF7FFFFFFF, 4, 0x7FFFFFFF, 0x7FFFFFFF, false},
		{0x80000000, 4, 0x80000000, 0xFFFFFFFF80000000, true},
		{0x7FFFFFFFFFFFFFFF, 8, 0x7FFFFFFFFFFFFFFF, 0x7FFFFFFFFFFFFFFF, false},
		{0x8000000000000000, 8, 0x8000000000000000, 0x8000000000000000, true},
	} {
		if zx, sx, neg := bits.Zx(c.v, c.w), bits.Sx(c.v, c.w), bits.Neg(c.v, c.w); zx != c.zx || sx != c.sx || neg != c.neg {
			t.Errorf("%x of width %d: %x %x %v", c.v, c.w, zx, sx, neg)
		}
	}
}

func TestNoWidth(t *testing.T) {
	for _, w := range noWidths {
		if bits.Mask(w) != 0 {
			t.Errorf("Mask(%d) = %x", w, bits.Mask(w))
		}
		for _, v := range words() {
			if z, s, n := bits.Zx(v, w), bits.Sx(v, w), bits.Neg(v, w); z != 0 || s != 0 || n {
				t.Errorf("of width %d: Zx(%x) = %x, Sx = %x, Neg = %v", w, v, z, s, n)
			}
			for _, k := range []int{0, 1, 7, -1} {
				if r := bits.Turn(v, k, w); r != 0 {
					t.Errorf("Turn(%x, %d, %d) = %x", v, k, w, r)
				}
			}
			for _, b := range []uint64{0, 1, v, ^v, math.MaxUint64} {
				for _, in := range []bool{false, true} {
					if r, c, o := bits.Sum(v, b, in, w); r != 0 || c || o {
						t.Errorf("Sum(%x, %x, %v, %d) = %x %v %v", v, b, in, w, r, c, o)
					}
					if r, c, o := bits.Less(v, b, in, w); r != 0 || c || o {
						t.Errorf("Less(%x, %x, %v, %d) = %x %v %v", v, b, in, w, r, c, o)
					}
				}
			}
		}
	}
}

// P1.2

// check holds what Sum or Less returned against a plus sign times b and in.
func check(t *testing.T, name string, f func(a, b uint64, in bool, w int) (uint64, bool, bool), sign int64, a, b uint64, in bool, w int) {
	t.Helper()
	whole := func(read func(uint64, int) *big.Int) *big.Int {
		n := new(big.Int).Add(read(b, w), number(in))
		n.Mul(n, big.NewInt(sign))
		return n.Add(n, read(a, w))
	}
	u, s := whole(unsigned), whole(signed)
	r, out, over := f(a, b, in, w)
	if r != word(u, w) || out == isUnsigned(u, w) || over == isSigned(s, w) {
		t.Errorf("%s(%x, %x, %v, %d) = %x %v %v", name, a, b, in, w, r, out, over)
	}
}

func TestSumAndLess(t *testing.T) {
	for _, w := range widths {
		for _, a := range words() {
			for _, b := range words() {
				for _, in := range []bool{false, true} {
					check(t, "Sum", bits.Sum, 1, a, b, in, w)
					check(t, "Less", bits.Less, -1, a, b, in, w)
				}
			}
		}
	}
}

func TestEveryByte(t *testing.T) {
	for a := -128; a < 128; a++ {
		for b := -128; b < 128; b++ {
			for in := range 2 {
				r, carry, over := bits.Sum(uint64(a), uint64(b), in == 1, 1)
				if s, u := a+b+in, a&255+b&255+in; r != uint64(s&255) || carry != (u > 255) || over != (s < -128 || s > 127) {
					t.Fatalf("Sum(%d, %d, %d, 1) = %x %v %v", a, b, in, r, carry, over)
				}
				r, borrow, over := bits.Less(uint64(a), uint64(b), in == 1, 1)
				if s, u := a-b-in, a&255-b&255-in; r != uint64(s&255) || borrow != (u < 0) || over != (s < -128 || s > 127) {
					t.Fatalf("Less(%d, %d, %d, 1) = %x %v %v", a, b, in, r, borrow, over)
				}
			}
		}
	}
}

func TestSumByHand(t *testing.T) {
	const top = 1 << 63
	for _, c := range []struct {
		a, b        uint64
		in          bool
		w           int
		r           uint64
		carry, over bool
	}{
		{255, 1, false, 1, 0, true, false},
		{127, 1, false, 1, 128, false, true},
		{127, 0, true, 1, 128, false, true},
		{255, 255, true, 1, 255, true, false},
		{0x80, 0x7F, true, 1, 0, true, false},
		{0xFF00, 0x0100, false, 1, 0, false, false},
		{0xFFFF, 0, true, 2, 0, true, false},
		{0x8000, 0x8000, false, 2, 0, true, true},
		{0x7FFFFFFF, 1, false, 4, 0x80000000, false, true},
		{0xFFFFFFFF, 1, false, 4, 0, true, false},
		{math.MaxUint64, 0, true, 8, 0, true, false},
		{math.MaxUint64, math.MaxUint64, true, 8, math.MaxUint64, true, false},
		{top - 1, 1, false, 8, top, false, true},
		{top, top, false, 8, 0, true, true},
	} {
		if r, carry, over := bits.Sum(c.a, c.b, c.in, c.w); r != c.r || carry != c.carry || over != c.over {
			t.Errorf("Sum(%x, %x, %v, %d) = %x %v %v", c.a, c.b, c.in, c.w, r, carry, over)
		}
	}
}

func TestLessByHand(t *testing.T) {
	const top = 1 << 63
	for _, c := range []struct {
		a, b         uint64
		in           bool
		w            int
		r            uint64
		borrow, over bool
	}{
		{0, 1, false, 1, 255, true, false},
		{0, 0, true, 1, 255, true, false},
		{0, 255, true, 1, 0, true, false},
		{0x80, 1, false, 1, 0x7F, false, true},
		{0x80, 0, true, 1, 0x7F, false, true},
		{0x7F, 0xFF, false, 1, 0x80, true, true},
		{0x7F, 0xFF, true, 1, 0x7F, true, false},
		{0x100, 0, true, 1, 0xFF, true, false},
		{0x8000, 1, false, 2, 0x7FFF, false, true},
		{0, 0x8000, false, 2, 0x8000, true, true},
		{0, 0x80000000, false, 4, 0x80000000, true, true},
		{5, 5, true, 4, 0xFFFFFFFF, true, false},
		{0, 1, false, 8, math.MaxUint64, true, false},
		{0, math.MaxUint64, true, 8, 0, true, false},
		{top, 1, false, 8, top - 1, false, true},
		{0, top, false, 8, top, true, true},
		{7, 7, false, 8, 0, false, false},
	} {
		if r, borrow, over := bits.Less(c.a, c.b, c.in, c.w); r != c.r || borrow != c.borrow || over != c.over {
			t.Errorf("Less(%x, %x, %v, %d) = %x %v %v", c.a, c.b, c.in, c.w, r, borrow, over)
		}
	}
}

// P1.3

func TestEven(t *testing.T) {
	for v := range uint64(1 << 10) {
		ones := 0
		for k := range 8 {
			ones += int(v >> k & 1)
		}
		for _, above := range []uint64{0, 1 << 10, 1 << 63, 7 << 40} {
			if got := bits.Even(v | above); got != (ones%2 == 0) {
				t.Errorf("Even(%x) = %v", v|above, got)
			}
		}
	}
}

func TestTurn(t *testing.T) {
	counts := []int{math.MinInt, math.MinInt + 1, math.MinInt + 13, math.MaxInt, math.MaxInt - 9, 1 << 32, 1<<32 + 5, -1 << 32}
	for k := -130; k <= 130; k++ {
		counts = append(counts, k)
	}
	for _, w := range widths {
		n := big.NewInt(int64(8 * w))
		for _, v := range words() {
			for _, k := range counts {
				left := new(big.Int).Mod(big.NewInt(int64(k)), n).Int64()
				want := uint64(0)
				for at := range int64(8 * w) {
					want |= v >> at & 1 << ((at + left) % int64(8*w))
				}
				if got := bits.Turn(v, k, w); got != want {
					t.Fatalf("Turn(%x, %d, %d) = %x, want %x", v, k, w, got, want)
				}
			}
		}
	}
	if got := bits.Turn(129, 1, 1); got != 3 {
		t.Error("Turn(129, 1, 1)", got)
	}
	if got := bits.Turn(0x8001, -1, 2); got != 0xC000 {
		t.Errorf("Turn(8001, -1, 2) = %x", got)
	}
}

func TestProducts(t *testing.T) {
	for _, a := range words() {
		for _, b := range words() {
			p := new(big.Int).Mul(unsigned(a, 8), unsigned(b, 8))
			if hi, lo := bits.MulU(a, b); hi != word(new(big.Int).Rsh(p, 64), 8) || lo != word(p, 8) {
				t.Errorf("MulU(%x, %x) = %x %x", a, b, hi, lo)
			}
			p.Mul(signed(a, 8), signed(b, 8))
			if hi, lo := bits.MulS(a, b); hi != word(new(big.Int).Rsh(p, 64), 8) || lo != word(p, 8) {
				t.Errorf("MulS(%x, %x) = %x %x", a, b, hi, lo)
			}
		}
	}
}

func TestProductsByHand(t *testing.T) {
	const all, top = math.MaxUint64, 1 << 63
	for _, c := range []struct{ a, b, hu, hs, lo uint64 }{
		{3, 5, 0, 0, 15},
		{all, all, all - 1, 0, 1},
		{all, 2, 1, all, all - 1},
		{2, all, 1, all, all - 1},
		{top, top, 1 << 62, 1 << 62, 0},
		{top, all, top - 1, 0, top},
		{1 << 32, 1 << 32, 1, 1, 0},
		{0xFFFFFFFF, 0xFFFFFFFF, 0, 0, 0xFFFFFFFE00000001},
	} {
		if hi, lo := bits.MulU(c.a, c.b); hi != c.hu || lo != c.lo {
			t.Errorf("MulU(%x, %x) = %x %x", c.a, c.b, hi, lo)
		}
		if hi, lo := bits.MulS(c.a, c.b); hi != c.hs || lo != c.lo {
			t.Errorf("MulS(%x, %x) = %x %x", c.a, c.b, hi, lo)
		}
	}
}

// P1.4

// edges are places and lengths in and around a word, and extreme ones, whose sums wrap.
func edges() []int {
	l := []int{math.MinInt, math.MinInt + 1, math.MinInt + 32, math.MaxInt, math.MaxInt - 1, math.MaxInt - 31, 1 << 32, 1<<32 + 1, -1 << 32, 1 << 31, -1 << 31}
	for k := -35; k <= 67; k++ {
		l = append(l, k)
	}
	return l
}

func isField(at, n int) bool {
	return at >= 0 && at <= 31 && n >= 1 && n <= 32 && at+n <= 32
}

func fieldByBits(v uint32, at, n int) uint32 {
	if !isField(at, n) {
		return 0
	}
	var f uint32
	for k := range n {
		f |= v >> (at + k) & 1 << k
	}
	return f
}

func withByBits(v uint32, at, n int, f uint32) uint32 {
	if !isField(at, n) {
		return v
	}
	for k := range n {
		v = v&^(1<<(at+k)) | f>>k&1<<(at+k)
	}
	return v
}

func TestFields(t *testing.T) {
	for _, at := range edges() {
		for _, n := range edges() {
			for _, v := range []uint32{0, 1, 1 << 31, 0xFFFFFFFF, 0xDEADBEEF, 0x12345678} {
				if got, want := bits.Field(v, at, n), fieldByBits(v, at, n); got != want {
					t.Errorf("Field(%x, %d, %d) = %x, want %x", v, at, n, got, want)
				}
				for _, f := range []uint32{0, 0xFFFFFFFF, 0xA5C3960F, 1, 1 << 31} {
					if got, want := bits.With(v, at, n, f), withByBits(v, at, n, f); got != want {
						t.Errorf("With(%x, %d, %d, %x) = %x, want %x", v, at, n, f, got, want)
					}
				}
			}
		}
	}
}

func TestFieldsByHand(t *testing.T) {
	for _, c := range []struct {
		v           uint32
		at, n       int
		field, with uint32
	}{
		{0x12345678, 0, 32, 0x12345678, 0xFFFFFFFF},
		{0x12345678, 0, 1, 0, 0x12345679},
		{0x92345678, 31, 1, 1, 0x92345678},
		{0x12345678, 31, 1, 0, 0x92345678},
		{0x12345678, 24, 8, 0x12, 0xFF345678},
		{0x12345678, 4, 8, 0x67, 0x12345FF8},
		{0x12345678, 31, 2, 0, 0x12345678},
		{0x12345678, 1, 32, 0, 0x12345678},
		{0x12345678, 32, 1, 0, 0x12345678},
		{0x12345678, 0, 33, 0, 0x12345678},
		{0x12345678, 0, 0, 0, 0x12345678},
		{0x12345678, -1, 2, 0, 0x12345678},
		{0x12345678, 5, -1, 0, 0x12345678},
	} {
		if got := bits.Field(c.v, c.at, c.n); got != c.field {
			t.Errorf("Field(%x, %d, %d) = %x", c.v, c.at, c.n, got)
		}
		if got := bits.With(c.v, c.at, c.n, 0xFFFFFFFF); got != c.with {
			t.Errorf("With(%x, %d, %d, ..) = %x", c.v, c.at, c.n, got)
		}
	}
}

func TestFits(t *testing.T) {
	for _, n := range edges() {
		for _, x := range words() {
			v, good := int64(x), n >= 1 && n <= 64
			want := good && (n == 64 || v >= -1<<(n-1) && v < 1<<(n-1))
			if got := bits.Fits(v, n); got != want {
				t.Errorf("Fits(%d, %d) = %v", v, n, got)
			}
			want = good && (n == 64 || x < 1<<n)
			if got := bits.FitsU(x, n); got != want {
				t.Errorf("FitsU(%d, %d) = %v", x, n, got)
			}
		}
	}
}

func TestFitsAtBothEnds(t *testing.T) {
	for n := 1; n < 64; n++ {
		top := int64(1) << (n - 1)
		if !bits.Fits(-top, n) || !bits.Fits(top-1, n) {
			t.Errorf("Fits of %d bits omits an end", n)
		}
		if bits.Fits(top, n) || bits.Fits(-top-1, n) {
			t.Errorf("Fits of %d bits goes beyond an end", n)
		}
		if all := uint64(1) << n; !bits.FitsU(0, n) || !bits.FitsU(all-1, n) || bits.FitsU(all, n) {
			t.Errorf("FitsU of %d bits", n)
		}
	}
	if !bits.Fits(math.MinInt64, 64) || !bits.Fits(math.MaxInt64, 64) || !bits.FitsU(math.MaxUint64, 64) {
		t.Error("64 bits")
	}
}

func TestAny(t *testing.T) {
	if got := bits.Any(); got != 0 {
		t.Errorf("Any() = %x", got)
	}
	if got := bits.Any(0x80); got != 0x80 {
		t.Errorf("Any(80) = %x", got)
	}
	l := []uint64{1, 1 << 63, 6, 1, 0}
	if got := bits.Any(l...); got != 1<<63|7 {
		t.Errorf("Any(%x) = %x", l, got)
	}
	if l[0] != 1 || l[1] != 1<<63 || l[2] != 6 || l[3] != 1 || l[4] != 0 {
		t.Error("Any changed its argument:", l)
	}
}

func TestOnes(t *testing.T) {
	for _, v := range words() {
		want := 0
		for k := range 64 {
			want += int(v >> k & 1)
		}
		if got := bits.Ones(v); got != want {
			t.Errorf("Ones(%x) = %d, want %d", v, got, want)
		}
	}
	if bits.Ones(math.MaxUint64) != 64 || bits.Ones(0) != 0 || bits.Ones(1<<63) != 1 {
		t.Error("Ones at the ends")
	}
}

func TestLog(t *testing.T) {
	for n, want := range map[int]int{0: 0, 1: 0, 2: 1, 3: 2, 4: 2, 5: 3, 8: 3, 9: 4, -1: 0, -8: 0, math.MinInt: 0, math.MinInt + 1: 0, math.MaxInt: 63} {
		if got := bits.Log(n); got != want {
			t.Errorf("Log(%d) = %d, want %d", n, got, want)
		}
	}
	for k := 2; k < 63; k++ {
		if a, b, c := bits.Log(1<<k-1), bits.Log(1<<k), bits.Log(1<<k+1); a != k || b != k || c != k+1 {
			t.Errorf("Log around 2^%d: %d %d %d", k, a, b, c)
		}
	}
}

// P1.5

func TestLessInvertsSum(t *testing.T) {
	for _, w := range widths {
		for _, a := range words() {
			for _, b := range words() {
				for _, in := range []bool{false, true} {
					sum, carry, _ := bits.Sum(a, b, in, w)
					back, borrow, _ := bits.Less(sum, b, in, w)
					if back != bits.Zx(a, w) {
						t.Errorf("Less(Sum(%x, %x, %v, %d)) = %x", a, b, in, w, back)
					}
					if !in && carry != borrow {
						t.Errorf("Sum(%x, %x, %d): carry %v, borrow %v", a, b, w, carry, borrow)
					}
				}
			}
		}
	}
}

// P1.6

func TestExtendTwice(t *testing.T) {
	for _, w := range widths {
		for _, v := range words() {
			z, s := bits.Zx(v, w), bits.Sx(v, w)
			if bits.Zx(z, w) != z || bits.Sx(s, w) != s {
				t.Errorf("%x of width %d is not the same when extended twice", v, w)
			}
			if bits.Zx(s, w) != z || bits.Sx(z, w) != s {
				t.Errorf("%x of width %d: one extension loses the number", v, w)
			}
		}
	}
}

// P1.7

func TestFieldReadsWith(t *testing.T) {
	for at := range 32 {
		for n := 1; n <= 32-at; n++ {
			ones := uint32(1<<n - 1)
			for _, v := range []uint32{0, 0xFFFFFFFF, 0x13579BDF} {
				for _, f := range []uint32{0, 0xFFFFFFFF, 0x2468ACE1} {
					r := bits.With(v, at, n, f)
					if got := bits.Field(r, at, n); got != f&ones {
						t.Errorf("Field(With(%x, %d, %d, %x)) = %x", v, at, n, f, got)
					}
					if (r^v)&^(ones<<at) != 0 {
						t.Errorf("With(%x, %d, %d, %x) = %x changes other bits", v, at, n, f, r)
					}
				}
			}
		}
	}
}
