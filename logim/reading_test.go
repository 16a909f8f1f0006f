package logim_test

import (
	"strconv"
	"strings"
	"testing"

	"calque/logim"
)

// element is the text of an element's bits, the highest first.
func element(size, ones, turn int) string {
	s := strings.Repeat("0", size-ones) + strings.Repeat("1", ones)
	return s[size-turn:] + s[:size-turn]
}

// word is the word of a text of bits.
func word(s string) uint64 {
	v, err := strconv.ParseUint(s, 2, 64)
	if err != nil {
		panic(err)
	}
	return v
}

// turned is a second reading of the words: texts of bits, repeated.
func turned(size, ones, turn int) uint64 {
	return word(strings.Repeat(element(size, ones, turn), 64/size))
}

// decoded is a second reading of the thirteen bits, as a text.
func decoded(b uint32) (uint64, bool) {
	s := strconv.FormatUint(1<<13|uint64(b), 2)[1:]
	size := 64
	if s[0] == '0' {
		at := strings.IndexByte(s[7:], '0')
		if at < 0 || at == 5 {
			return 0, false
		}
		size = 32 >> at
	}
	ones := int(b)&(size-1) + 1
	if ones == size {
		return 0, false
	}
	return turned(size, ones, int(word(s[1:7]))%size), true
}

// P19.1: Turned gives all words that the second reading gives.
func TestTurnedReading(t *testing.T) {
	for size := 2; size <= 64; size *= 2 {
		for ones := 1; ones < size; ones++ {
			for turn := range size {
				if got, want := logim.Turned(size, ones, turn), turned(size, ones, turn); got != want {
					t.Fatalf("Turned(%d, %d, %d) = %X, want %X", size, ones, turn, got, want)
				}
			}
		}
	}
}

// least are the least thirteen bits of all words that have some.
func least() map[uint64]uint32 {
	m := map[uint64]uint32{}
	for b := range uint32(8192) {
		if v, ok := decoded(b); ok {
			if _, has := m[v]; !has {
				m[v] = b
			}
		}
	}
	return m
}

// P19.1 to P19.3: all of the thirteen bits are decoded as the second reading does it, and their words are encoded as the least of them.
func TestDecodeReading(t *testing.T) {
	first := least()
	for b := range uint32(1 << 14) {
		want, may := decoded(b & 8191)
		if b > 8191 {
			want, may = 0, false
		}
		got, ok := logim.Decode(b)
		if got != want || ok != may {
			t.Fatalf("Decode(%d) = %X, %t, want %X, %t", b, got, ok, want, may)
		}
		if !ok {
			continue
		}
		if e, ok := logim.Encode(got); e != first[got] || !ok {
			t.Fatalf("Encode(%X) = %d, %t, want %d, true", got, e, ok, first[got])
		}
	}
}

// P19.2, P19.3: words that differ in one or two bits from one that has an encoding have one if and only if some bits denote them.
func TestEncodeReading(t *testing.T) {
	first := least()
	check := func(v uint64) {
		want, may := first[v]
		got, ok := logim.Encode(v)
		if got != want || ok != may {
			t.Fatalf("Encode(%X) = %d, %t, want %d, %t", v, got, ok, want, may)
		}
		if back, _ := logim.Decode(got); ok && back != v {
			t.Fatalf("Decode(Encode(%X)) = %X", v, back)
		}
	}
	for v := range first {
		for k := range 64 {
			check(v ^ 1<<k)
		}
		check(v ^ 3<<(v%63))
	}
	for v := range uint64(1 << 14) {
		check(v)
		check(^v)
		check(v | v<<32)
		check(v * 0x0001000100010001)
	}
}

// P19.4: the words with an encoding are those of equal elements, in each of which the ones are contiguous, cyclically: where bits differ from their neighbours, there are two places an element.
func TestContiguous(t *testing.T) {
	for v := range least() {
		s := strconv.FormatUint(v, 2)
		s = strings.Repeat("0", 64-len(s)) + s
		size := 64
		for half := 32; half >= 2 && strings.Repeat(s[:half], 64/half) == s; half /= 2 {
			size = half
		}
		changes := 0
		for k := range size {
			if s[k] != s[(k+1)%size] {
				changes++
			}
		}
		if _, ok := logim.Encode(v); !ok || changes != 2 {
			t.Errorf("Encode(%X) = %t; the bits of an element change %d times", v, ok, changes)
		}
	}
}
