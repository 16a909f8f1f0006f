package logim_test

import (
	"math"
	"testing"

	"calque/logim"
)

// P19.1: Turned, of every size, by hand.
func TestTurned(t *testing.T) {
	for _, c := range []struct {
		size, ones, turn int
		want             uint64
	}{
		{2, 1, 0, 0x5555555555555555},
		{2, 1, 1, 0xAAAAAAAAAAAAAAAA},
		{4, 1, 0, 0x1111111111111111},
		{4, 3, 1, 0xBBBBBBBBBBBBBBBB},
		{8, 3, 0, 0x0707070707070707},
		{8, 3, 1, 0x8383838383838383},
		{8, 7, 7, 0xFEFEFEFEFEFEFEFE},
		{16, 4, 2, 0xC003C003C003C003},
		{16, 15, 0, 0x7FFF7FFF7FFF7FFF},
		{32, 1, 31, 0x0000000200000002},
		{32, 16, 16, 0xFFFF0000FFFF0000},
		{64, 8, 0, 255},
		{64, 1, 1, 1 << 63},
		{64, 1, 63, 2},
		{64, 63, 0, math.MaxInt64},
		{64, 63, 63, math.MaxUint64 - 1},
		{64, 32, 8, 0xFF00000000FFFFFF},
	} {
		if got := logim.Turned(c.size, c.ones, c.turn); got != c.want {
			t.Errorf("Turned(%d, %d, %d) = %X, want %X", c.size, c.ones, c.turn, got, c.want)
		}
	}
}

// P19.1: Turned returns 0 if an argument is out of its range.
func TestTurnedWrong(t *testing.T) {
	sizes := []int{math.MinInt, -64, -2, -1, 0, 1, 3, 5, 6, 7, 12, 24, 31, 33, 48, 63, 65, 66, 96, 128, 256, math.MaxInt}
	for _, size := range sizes {
		for _, ones := range []int{math.MinInt, -1, 0, 1, 2, size - 1} {
			for _, turn := range []int{math.MinInt, -1, 0, 1, size - 1} {
				if got := logim.Turned(size, ones, turn); got != 0 {
					t.Errorf("Turned(%d, %d, %d) = %X, want 0", size, ones, turn, got)
				}
			}
		}
	}
	for _, size := range []int{2, 4, 8, 16, 32, 64} {
		for _, n := range []int{math.MinInt, -size, -1, 0, size, size + 1, 2 * size, math.MaxInt} {
			if got := logim.Turned(size, n, 0); got != 0 {
				t.Errorf("Turned(%d, %d, 0) = %X, want 0", size, n, got)
			}
			if got := logim.Turned(size, 1, n); n != 0 && got != 0 {
				t.Errorf("Turned(%d, 1, %d) = %X, want 0", size, n, got)
			}
		}
	}
}

// P19.1: Decode, of every size, by hand; bits of R and of S that the size leaves aside; and bits that are invalid.
func TestDecode(t *testing.T) {
	for _, c := range []struct {
		n, r, s uint32
		want    uint64
	}{
		{1, 0, 7, 255},
		{1, 63, 0, 2},
		{1, 0, 62, math.MaxInt64},
		{1, 0, 63, 0},
		{1, 9, 63, 0},
		{0, 0, 0, 0x0000000100000001},
		{0, 1, 0, 0x8000000080000000},
		{0, 33, 0, 0x8000000080000000},
		{0, 0, 30, 0x7FFFFFFF7FFFFFFF},
		{0, 0, 31, 0},
		{0, 0, 0b100000, 0x0001000100010001},
		{0, 49, 0b100000, 0x8000800080008000},
		{0, 0, 0b101110, 0x7FFF7FFF7FFF7FFF},
		{0, 0, 0b101111, 0},
		{0, 0, 0b110010, 0x0707070707070707},
		{0, 9, 0b110010, 0x8383838383838383},
		{0, 0, 0b110111, 0},
		{0, 0, 0b111000, 0x1111111111111111},
		{0, 62, 0b111001, 0xCCCCCCCCCCCCCCCC},
		{0, 0, 0b111011, 0},
		{0, 0, 0b111100, 0x5555555555555555},
		{0, 63, 0b111100, 0xAAAAAAAAAAAAAAAA},
		{0, 0, 0b111101, 0},
		{0, 0, 0b111110, 0},
		{0, 0, 0b111111, 0},
		{0, 17, 0b111111, 0},
		{2, 0, 7, 0},
		{3, 0, 7, 0},
	} {
		b := c.n<<12 | c.r<<6 | c.s
		if got, ok := logim.Decode(b); got != c.want || ok != (c.want != 0) {
			t.Errorf("Decode(N %d, R %d, S %06b) = %X, %t, want %X", c.n, c.r, c.s, got, ok, c.want)
		}
	}
	for _, b := range []uint32{8192, 8192 + 4103, 1 << 16, 1<<31 | 4103, math.MaxUint32 - 8191 + 4103, math.MaxUint32} {
		if got, ok := logim.Decode(b); got != 0 || ok {
			t.Errorf("Decode(%d) = %X, %t, want 0, false", b, got, ok)
		}
	}
}

// P19.2: Encode, by hand, with the document's examples.
func TestEncode(t *testing.T) {
	for _, c := range []struct {
		v    uint64
		want uint32
	}{
		{255, 4103},
		{0x5555555555555555, 60},
		{0xAAAAAAAAAAAAAAAA, 1<<6 | 60},
		{0x3333333333333333, 0b111001},
		{0xCCCCCCCCCCCCCCCC, 2<<6 | 0b111001},
		{0x0707070707070707, 0b110010},
		{0x8383838383838383, 1<<6 | 0b110010},
		{0xC003C003C003C003, 2<<6 | 0b100011},
		{0x00000000FFFFFFFF, 1<<12 | 31},
		{0xFFFFFFFF00000000, 1<<12 | 32<<6 | 31},
		{0x8000000080000000, 1 << 6},
		{1, 1 << 12},
		{1 << 63, 1<<12 | 1<<6},
		{math.MaxUint64 - 1, 1<<12 | 63<<6 | 62},
		{math.MaxInt64, 1<<12 | 62},
	} {
		if got, ok := logim.Encode(c.v); got != c.want || !ok {
			t.Errorf("Encode(%X) = %d, %t, want %d, true", c.v, got, ok, c.want)
		}
	}
}

// P19.2, P19.3: words without an encoding, among them 0 and all ones.
func TestEncodeNone(t *testing.T) {
	for _, v := range []uint64{
		0, math.MaxUint64, 5, 9, 0x0000000000000101, 0x0101010101010100, 0x0101010101010103, 0x5555555555555554,
		0x5555555555555557, 0x8000000000000002, 0x0000000100000003, 0x0505050505050505, 0xAAAA5555AAAA5555, 0x00FF00FE00FF00FE,
		0x0000FFFF0000FFFE, 0x123456789ABCDEF0, 0xFFFFFFFFFFFFFFF5,
	} {
		if got, ok := logim.Encode(v); got != 0 || ok {
			t.Errorf("Encode(%X) = %d, %t, want 0, false", v, got, ok)
		}
	}
}
