// Package bits is layer 1: numbers of one, two, four and eight bytes. See shared/doc/01-bits.md.
//
// It imports nothing, not even the library's package of the same name: the document lets it depend on no other package.
package bits

// Is reports whether w is a width: 1, 2, 4 or 8 bytes.
func Is(w int) bool {
	switch w {
	case 1, 2, 4, 8:
		return true
	}
	return false
}

// Mask returns 8w one bits.
func Mask(w int) uint64 {
	if !Is(w) {
		return 0
	}
	return ^uint64(0) >> (64 - size(w))
}

// Zx returns the unsigned number of width w of v.
func Zx(v uint64, w int) uint64 {
	return v & Mask(w)
}

// Sx returns the signed number of width w of v, extended to 64 bits.
func Sx(v uint64, w int) uint64 {
	if Neg(v, w) {
		return v | ^Mask(w)
	}
	return Zx(v, w)
}

// Neg reports whether the highest bit of the number of width w of v is 1.
func Neg(v uint64, w int) bool {
	return Is(w) && v>>(size(w)-1)&1 == 1
}

// size is the number of bits of a width.
func size(w int) uint {
	return 8 * uint(w)
}

// one is the number that a carry or a borrow adds.
func one(in bool) uint64 {
	if in {
		return 1
	}
	return 0
}

// Sum adds the numbers of width w of a and b, and 1 if in. It returns the sum, whether it carries, and whether it overflows as a signed number.
func Sum(a, b uint64, in bool, w int) (uint64, bool, bool) {
	s := a + b + one(in)
	// A place carries if both bits are 1, or if one is 1 and the sum's bit is 0: what came in from below went on.
	carry := a&b | (a|b)&^s
	over := (a ^ s) & (b ^ s)
	return Zx(s, w), Neg(carry, w), Neg(over, w)
}

// Less subtracts the number of width w of b, and 1 if in, from that of a. It returns the difference, whether it borrows, and whether it overflows as a signed number.
func Less(a, b uint64, in bool, w int) (uint64, bool, bool) {
	d := a - b - one(in)
	// A place borrows if only b's bit is 1, or if the bits are the same and the difference's bit is 1: what was lent below is asked for above.
	borrow := ^a&b | ^(a^b)&d
	over := (a ^ b) & (a ^ d)
	return Zx(d, w), Neg(borrow, w), Neg(over, w)
}

// Even reports whether the lowest byte of v has an even number of one bits.
func Even(v uint64) bool {
	return Ones(Zx(v, 1))%2 == 0
}

// Turn returns the number of width w of v, rotated left by k modulo its bits.
func Turn(v uint64, k, w int) uint64 {
	n := size(w)
	// The number of bits is a power of two: masking keeps a k below 0 in the range from 0, as a remainder would not.
	left := uint(k) & (n - 1)
	// For what is no width, v is 0 from here on.
	v = Zx(v, w)
	return Zx(v<<left|v>>(n-left), w)
}

// MulU returns the upper and the lower 64 bits of the product of the unsigned numbers.
func MulU(a, b uint64) (uint64, uint64) {
	const half = 32
	al, ah := Zx(a, 4), a>>half
	bl, bh := Zx(b, 4), b>>half
	low := al * bl
	// Neither sum exceeds 64 bits: a product of two halves is at most (2^32-1)^2, which leaves room for two more halves.
	mid := ah*bl + low>>half
	cross := al*bh + Zx(mid, 4)
	return ah*bh + mid>>half + cross>>half, cross<<half | Zx(low, 4)
}

// MulS returns the upper and the lower 64 bits of the product of the signed numbers.
func MulS(a, b uint64) (uint64, uint64) {
	hi, lo := MulU(a, b)
	// A negative number, read as unsigned, is 2^64 too great.
	if Neg(a, 8) {
		hi -= b
	}
	if Neg(b, 8) {
		hi -= a
	}
	return hi, lo
}

// fieldOf returns the one bits of a field of n bits from bit at on, or 0 if a word has no such field.
func fieldOf(at, n int) uint32 {
	if at < 0 || at > 31 || n < 1 || n > 32-at {
		return 0
	}
	return ^uint32(0) >> uint(32-n)
}

// Field returns the n bits of v from bit at on, or 0 if there is no such field.
func Field(v uint32, at, n int) uint32 {
	return v >> uint(at) & fieldOf(at, n)
}

// With returns v with the n bits from bit at on replaced by the lowest n bits of f, or v if there is no such field.
func With(v uint32, at, n int, f uint32) uint32 {
	ones := fieldOf(at, n)
	return v&^(ones<<uint(at)) | (f&ones)<<uint(at)
}

// Fits reports whether v is a signed number of n bits.
func Fits(v int64, n int) bool {
	if n < 1 || n > 64 {
		return false
	}
	rest := v >> uint(n-1)
	return rest == 0 || rest == -1
}

// FitsU reports whether v is an unsigned number of n bits.
func FitsU(v uint64, n int) bool {
	return n >= 1 && n <= 64 && v>>uint(n) == 0
}

// Any returns the bitwise OR of its arguments.
func Any(v ...uint64) uint64 {
	var all uint64
	for _, x := range v {
		all |= x
	}
	return all
}

// Ones returns the number of one bits.
func Ones(v uint64) int {
	n := 0
	for ; v != 0; v &= v - 1 {
		n++
	}
	return n
}

// Log returns the least k with 2^k >= n, and 0 for n below 2.
func Log(n int) int {
	k := 0
	for n > 1 && (n-1)>>uint(k) != 0 {
		k++
	}
	return k
}
