package rope_test

import (
	"bytes"
	"math"
	"strings"
	"testing"

	"calque/api"
	"calque/rope"
)

const full = 1 << 20

var widths = []int{1, 2, 4, 8}

var noWidths = []int{0, 3, 5, 6, 7, 9, 16, 64, 256, 257, -1, -2, -4, -8, 1 << 32, 1<<32 + 1, math.MaxInt, math.MinInt}

// far are offsets and lengths that no rope has; sums with some of them wrap.
var far = []int{-1, -2, -8, -full, full + 1, full + 2, 1 << 31, 1 << 32, -1 << 31, -1 << 32, math.MaxInt, math.MaxInt - 1, math.MaxInt - 7, math.MinInt, math.MinInt + 1, math.MinInt + 8}

// count returns n bytes, none of which is 0, and which differ from their neighbours.
func count(n int) []byte {
	b := make([]byte, n)
	for k := range b {
		b[k] = byte(k%251 + 1)
	}
	return b
}

// full but for some bytes.
func almost(left int) *rope.Rope {
	return rope.New(count(full - left))
}

func is(t *testing.T, what string, r *rope.Rope, want []byte) {
	t.Helper()
	if got := r.Bytes(); !bytes.Equal(got, want) {
		t.Errorf("%s: %d bytes, want %d; %.32x, want %.32x", what, len(got), len(want), got, want)
	}
	if r.Len() != len(want) {
		t.Errorf("%s: Len %d, want %d", what, r.Len(), len(want))
	}
}

func fails(t *testing.T, what string, got, want api.Errno) {
	t.Helper()
	if got != want {
		t.Errorf("%s: error %d, want %d", what, got, want)
	}
}

// P2.1: New

func TestNew(t *testing.T) {
	is(t, "New()", rope.New(), nil)
	is(t, "New(nil, empty)", rope.New(nil, []byte{}), nil)
	is(t, "one part", rope.New([]byte{1, 2}), []byte{1, 2})
	is(t, "parts", rope.New([]byte{1, 2}, nil, []byte{3}, []byte{0, 4}), []byte{1, 2, 3, 0, 4})
}

func TestNewAtTheLimit(t *testing.T) {
	all := count(full + 3)
	is(t, "exactly", rope.New(all[:full]), all[:full])
	is(t, "one more", rope.New(all[:full+1]), all[:full])
	is(t, "exactly, in parts", rope.New(all[:full-1], all[full-1:full]), all[:full])
	is(t, "a part that is cut", rope.New(all[:full-2], all[full-2:], []byte{7, 7}), all[:full])
	is(t, "a part beyond", rope.New(all[:full], []byte{9}), all[:full])
	is(t, "parts behind a cut one", rope.New(all[:full-1], []byte{5, 6}, nil, []byte{7}), append(count(full-1), 5))
}

func TestNewKeepsNoPart(t *testing.T) {
	a, b := []byte{1, 2, 3}, []byte{4, 5}
	parts := [][]byte{a, b}
	r, one := rope.New(parts...), rope.New(a)
	a[0], b[1], parts[1] = 9, 9, nil
	is(t, "parts written to", r, []byte{1, 2, 3, 4, 5})
	is(t, "one part written to", one, []byte{1, 2, 3})
	r.Set(1, 1, 8)
	if a[1] != 2 {
		t.Error("Set writes into a part")
	}
	room := make([]byte, 2, 8)
	rope.New(room).Num(1, 7)
	if room[:3][2] != 0 {
		t.Error("Num writes behind a part")
	}
}

func TestRopesAreApart(t *testing.T) {
	b := []byte{1, 2, 3}
	r, s := rope.New(b), rope.New(b)
	r.Set(0, 1, 9)
	r.Num(1, 7)
	s.Num(1, 8)
	is(t, "the one", r, []byte{9, 2, 3, 7})
	is(t, "the other", s, []byte{1, 2, 3, 8})
}

// P2.1: Raw

func TestRaw(t *testing.T) {
	r := rope.New()
	r.Raw()
	r.Raw(nil, []byte{})
	is(t, "nothing", r, nil)
	r.Raw([]byte{1, 2}, nil, []byte{3})
	r.Raw([]byte{0})
	is(t, "parts", r, []byte{1, 2, 3, 0})
}

func TestRawAtTheLimit(t *testing.T) {
	all := count(full)
	r := almost(3)
	r.Raw([]byte{1}, []byte{2}, []byte{3, 4})
	is(t, "parts that are too many together", r, all[:full-3])
	r.Raw([]byte{1, 2, 3, 4})
	is(t, "one byte too many", r, all[:full-3])
	r.Raw([]byte{1, 2}, []byte{3})
	want := append(all[:full-3:full-3], 1, 2, 3)
	is(t, "exactly", r, want)
	r.Raw([]byte{1})
	r.Raw(nil, []byte{1})
	is(t, "beyond", r, want)
	r.Raw()
	r.Raw(nil, []byte{})
	is(t, "nothing more", r, want)
	r = rope.New()
	r.Raw(count(full + 1))
	is(t, "too many at once", r, nil)
	r.Raw(count(full))
	is(t, "exactly, at once", r, count(full))
}

func TestRawKeepsNoPart(t *testing.T) {
	a := []byte{1, 2, 3}
	parts := [][]byte{a, {4}}
	r := rope.New()
	r.Raw(parts...)
	a[0], parts[1][0] = 9, 9
	is(t, "written to", r, []byte{1, 2, 3, 4})
	r.Set(1, 1, 8)
	if a[1] != 2 || len(parts) != 2 {
		t.Error("Raw's part changed:", a)
	}
}

// P2.1: Num

func TestNum(t *testing.T) {
	r := rope.New()
	for _, c := range []struct {
		w int
		l []uint64
	}{
		{2, []uint64{258, 1}},
		{1, []uint64{0x1FF, 0x80}},
		{4, []uint64{0xAABBCCDD11223344}},
		{8, []uint64{0x0102030405060708, math.MaxUint64}},
		{4, nil},
	} {
		fails(t, "Num", r.Num(c.w, c.l...), api.OK)
	}
	is(t, "numbers", r, []byte{2, 1, 1, 0, 0xFF, 0x80, 0x44, 0x33, 0x22, 0x11, 8, 7, 6, 5, 4, 3, 2, 1, 255, 255, 255, 255, 255, 255, 255, 255})
}

func TestNumWrong(t *testing.T) {
	for _, w := range noWidths {
		r := rope.New([]byte{1})
		fails(t, "no width", r.Num(w, 1, 2), api.ErrArg)
		fails(t, "no width, no number", r.Num(w), api.ErrArg)
		is(t, "no width", r, []byte{1})
		fails(t, "no width, no room", almost(0).Num(w, 1), api.ErrArg)
	}
}

func TestNumAtTheLimit(t *testing.T) {
	for _, w := range widths {
		r := almost(2*w - 1)
		fails(t, "one byte too many", r.Num(w, 1, 2), api.ErrFull)
		is(t, "one byte too many", r, count(full-2*w+1))
		r = almost(2 * w)
		fails(t, "one number too many", r.Num(w, 1, 2, 3), api.ErrFull)
		is(t, "one number too many", r, count(full-2*w))
		fails(t, "exactly", r.Num(w, 1, 2), api.OK)
		if r.Len() != full {
			t.Error("exactly: Len", r.Len())
		}
		if v, e := r.At(full-w, w); v != 2 || e != api.OK {
			t.Error("the last number:", v, e)
		}
		fails(t, "full", r.Num(w, 1), api.ErrFull)
		fails(t, "full, no number", r.Num(w), api.OK)
		if r.Len() != full {
			t.Error("full: Len", r.Len())
		}
	}
	fails(t, "many", rope.New().Num(8, make([]uint64, full/8+1)...), api.ErrFull)
	fails(t, "as many as may be", rope.New().Num(8, make([]uint64, full/8)...), api.OK)
}

func TestNumKeepsItsList(t *testing.T) {
	l := []uint64{0x1234, 0xFFFFF}
	r := rope.New()
	r.Num(1, l...)
	if l[0] != 0x1234 || l[1] != 0xFFFFF {
		t.Error("Num changed its argument:", l)
	}
	l[0] = 0
	is(t, "written to", r, []byte{0x34, 0xFF})
}

// P2.1: Text

func TestText(t *testing.T) {
	r := rope.New([]byte{7})
	fails(t, "none", r.Text(), api.OK)
	is(t, "none", r, []byte{7})
	fails(t, "two", r.Text("ab", "\xff\x01"), api.OK)
	fails(t, "empty", r.Text("", ""), api.OK)
	is(t, "texts", r, []byte("\x07ab\x00\xff\x01\x00\x00\x00"))
}

func TestTextWrong(t *testing.T) {
	for _, s := range []string{"\x00", "a\x00", "\x00a", "a\x00b"} {
		r := rope.New([]byte{7})
		fails(t, "a byte 0", r.Text(s), api.ErrArg)
		fails(t, "a byte 0 behind others", r.Text("a", s), api.ErrArg)
		fails(t, "a byte 0 ahead of others", r.Text(s, "a"), api.ErrArg)
		is(t, "a byte 0", r, []byte{7})
		fails(t, "a byte 0, no room", almost(0).Text(s), api.ErrArg)
		fails(t, "no room, then a byte 0", almost(1).Text("abc", s), api.ErrArg)
	}
}

func TestTextAtTheLimit(t *testing.T) {
	r := almost(5)
	for _, l := range [][]string{{"abcde"}, {"abcdef"}, {"ab", "cd"}, {"", "abcd"}, {"", "", "", "", "", ""}, {strings.Repeat("x", full)}} {
		fails(t, "no room", r.Text(l...), api.ErrFull)
		is(t, "no room", r, count(full-5))
	}
	fails(t, "exactly", r.Text("ab", "c"), api.OK)
	want := append(count(full-5), "ab\x00c\x00"...)
	is(t, "exactly", r, want)
	fails(t, "full", r.Text(""), api.ErrFull)
	fails(t, "full, none", r.Text(), api.OK)
	is(t, "full", r, want)
	fails(t, "exactly, at once", rope.New().Text(strings.Repeat("x", full-1)), api.OK)
	fails(t, "too long, at once", rope.New().Text(strings.Repeat("x", full)), api.ErrFull)
}

// P2.1: Pad

func TestPad(t *testing.T) {
	for _, c := range []struct{ n, to, want int }{
		{0, 1, 0}, {0, 16, 0}, {0, 65536, 0}, {5, 1, 5}, {5, 4, 8}, {8, 4, 8}, {5, 5, 5}, {5, 7, 7}, {8, 7, 14},
		{1, 65536, 65536}, {65536, 65536, 65536}, {65537, 65536, 131072}, {3, 65535, 65535},
	} {
		r := rope.New(count(c.n))
		fails(t, "Pad", r.Pad(c.to), api.OK)
		is(t, "Pad", r, append(count(c.n), make([]byte, c.want-c.n)...))
	}
}

func TestPadWrong(t *testing.T) {
	for _, to := range []int{0, -1, -16, 65537, 1 << 20, 1 << 32, 1<<32 + 4, math.MaxInt, math.MinInt} {
		r := rope.New([]byte{1})
		fails(t, "Pad", r.Pad(to), api.ErrArg)
		is(t, "Pad", r, []byte{1})
		fails(t, "Pad of nothing", rope.New().Pad(to), api.ErrArg)
		fails(t, "Pad when full", almost(0).Pad(to), api.ErrArg)
	}
}

func TestPadAtTheLimit(t *testing.T) {
	for _, to := range []int{1, 2, 16, 65536} {
		r := almost(0)
		fails(t, "full", r.Pad(to), api.OK)
		is(t, "full", r, count(full))
		r = almost(to - 1)
		fails(t, "exactly", r.Pad(to), api.OK)
		is(t, "exactly", r, append(count(full-to+1), make([]byte, to-1)...))
	}
	for _, to := range []int{3, 7, 65535} {
		r := almost(0)
		fails(t, "no room", r.Pad(to), api.ErrFull)
		is(t, "no room", r, count(full))
	}
	// 17 divides full + 1, and 31 divides full - 1.
	r := almost(2)
	fails(t, "one byte too many", r.Pad(17), api.ErrFull)
	is(t, "one byte too many", r, count(full-2))
	fails(t, "one byte less", r.Pad(31), api.OK)
	is(t, "one byte less", r, append(count(full-2), 0))
}

// P2.2: Set

func TestSet(t *testing.T) {
	for _, w := range widths {
		for at := 0; at+w <= 12; at++ {
			r, want := rope.New(count(12)), count(12)
			const v = 0xF1E2D3C4B5A69788
			for k := range w {
				want[at+k] = byte(uint64(v) >> (8 * k))
			}
			fails(t, "Set", r.Set(at, w, v), api.OK)
			is(t, "Set", r, want)
			if got, e := r.At(at, w); e != api.OK || got != v&(math.MaxUint64>>(64-8*w)) {
				t.Errorf("At(%d, %d) = %x, %d", at, w, got, e)
			}
		}
	}
	r := rope.New()
	r.Num(2, 258, 1)
	fails(t, "the example", r.Set(1, 2, 65535), api.OK)
	is(t, "the example", r, []byte{2, 255, 255, 0})
	if v, e := r.At(0, 4); v != 16776962 || e != api.OK {
		t.Error("the example: At", v, e)
	}
	v, e := r.At(1, 4)
	fails(t, "the example", e, api.ErrRange)
	if v != 0 {
		t.Error("a number beside an error:", v)
	}
}

// wrongPlaces are positions at which n bytes have no number of width w.
func wrongPlaces(n, w int) []int {
	l := append([]int(nil), far...)
	for at := n - w + 1; at <= n+9; at++ {
		l = append(l, at)
	}
	return append(l, -w, -w-1, math.MaxInt-w, math.MaxInt-w+1)
}

func TestSetAndAtWrong(t *testing.T) {
	for _, n := range []int{0, 1, 12} {
		r := rope.New(count(n))
		for _, w := range widths {
			for _, at := range wrongPlaces(n, w) {
				fails(t, "Set", r.Set(at, w, 1), api.ErrRange)
				v, e := r.At(at, w)
				fails(t, "At", e, api.ErrRange)
				if v != 0 {
					t.Error("At returns a number beside an error:", v)
				}
			}
		}
		for _, w := range noWidths {
			for _, at := range append([]int{0, 1, n - 1, n}, far...) {
				fails(t, "Set", r.Set(at, w, 1), api.ErrArg)
				v, e := r.At(at, w)
				fails(t, "At", e, api.ErrArg)
				if v != 0 {
					t.Error("At returns a number beside an error:", v)
				}
			}
		}
		is(t, "after errors", r, count(n))
	}
}

func TestAtTheEndOfAFullRope(t *testing.T) {
	r := almost(0)
	for _, w := range widths {
		fails(t, "Set", r.Set(full-w, w, math.MaxUint64), api.OK)
		if v, e := r.At(full-w, w); e != api.OK || v != math.MaxUint64>>(64-8*w) {
			t.Errorf("At %x %d", v, e)
		}
		fails(t, "Set beyond", r.Set(full-w+1, w, 1), api.ErrRange)
	}
}

// P2.2: Cut

func TestCut(t *testing.T) {
	b := count(6)
	r := rope.New(b)
	for at := -3; at <= 9; at++ {
		for n := -3; n <= 9; n++ {
			got, e := r.Cut(at, n)
			if at >= 0 && n >= 0 && at+n <= 6 {
				if e != api.OK || !bytes.Equal(got, b[at:at+n]) {
					t.Errorf("Cut(%d, %d) = %x, %d", at, n, got, e)
				}
			} else if e != api.ErrRange || len(got) != 0 {
				t.Errorf("Cut(%d, %d) = %x, %d", at, n, got, e)
			}
		}
	}
	for _, x := range far {
		for _, y := range append([]int{0, 1, 6}, far...) {
			for _, c := range [][2]int{{x, y}, {y, x}} {
				if got, e := r.Cut(c[0], c[1]); e != api.ErrRange || len(got) != 0 {
					t.Errorf("Cut(%d, %d) = %x, %d", c[0], c[1], got, e)
				}
			}
		}
	}
	if _, e := rope.New().Cut(0, 0); e != api.OK {
		t.Error("Cut of nothing from nothing:", e)
	}
}

// P2.2: Str

func TestStr(t *testing.T) {
	r := rope.New([]byte("ab\x00\x00cde\x00\xff\x80\x00xy"))
	for _, c := range []struct {
		at, most int
		s        string
		e        api.Errno
	}{
		{0, 2, "ab", api.OK},
		{0, 3, "ab", api.OK},
		{0, math.MaxInt, "ab", api.OK},
		{0, 1, "", api.ErrLong},
		{0, 0, "", api.ErrLong},
		{0, -1, "", api.ErrLong},
		{0, math.MinInt, "", api.ErrLong},
		{1, 1, "b", api.OK},
		{1, 0, "", api.ErrLong},
		{1, -1, "", api.ErrLong},
		{1, math.MinInt, "", api.ErrLong},
		{2, 0, "", api.OK},
		{2, -1, "", api.OK},
		{3, math.MinInt, "", api.OK},
		{4, 3, "cde", api.OK},
		{4, 2, "", api.ErrLong},
		{8, 2, "\xff\x80", api.OK},
		{10, 0, "", api.OK},
		{11, 9, "", api.ErrRange},
		{11, 0, "", api.ErrRange},
		{12, -1, "", api.ErrRange},
		{13, 9, "", api.ErrRange},
		{14, 9, "", api.ErrRange},
		{-1, 9, "", api.ErrRange},
		{-2, 0, "", api.ErrRange},
	} {
		if s, e := r.Str(c.at, c.most); s != c.s || e != c.e {
			t.Errorf("Str(%d, %d) = %q, %d", c.at, c.most, s, e)
		}
	}
	for _, at := range far {
		for _, most := range append([]int{0, 9}, far...) {
			if s, e := r.Str(at, most); s != "" || e != api.ErrRange {
				t.Errorf("Str(%d, %d) = %q, %d", at, most, s, e)
			}
		}
	}
	if s, e := rope.New().Str(0, 0); s != "" || e != api.ErrRange {
		t.Errorf("Str of nothing: %q, %d", s, e)
	}
}

func TestStrIsACopy(t *testing.T) {
	r := rope.New([]byte("abc\x00"))
	s, _ := r.Str(0, 3)
	r.Set(0, 1, 'x')
	if s != "abc" {
		t.Error("Str changed afterwards:", s)
	}
}

// P2.3

func stands(t *testing.T, what string, v *rope.View, at, left int, e api.Errno) {
	t.Helper()
	if v.At() != at || v.Left() != left || v.Err() != e {
		t.Errorf("%s: At %d, Left %d, Err %d; want %d, %d, %d", what, v.At(), v.Left(), v.Err(), at, left, e)
	}
}

func TestRead(t *testing.T) {
	r := rope.New(count(20))
	v := r.Read(1)
	stands(t, "at first", v, 1, 19, api.OK)
	if n := v.Num(2); n != 0x0302 {
		t.Errorf("Num(2) = %x", n)
	}
	stands(t, "behind a number", v, 3, 17, api.OK)
	if b := v.Raw(3); !bytes.Equal(b, []byte{4, 5, 6}) {
		t.Errorf("Raw(3) = %x", b)
	}
	v.Skip(2)
	stands(t, "behind what is skipped", v, 8, 12, api.OK)
	if n := v.Num(8); n != 0x100F0E0D0C0B0A09 {
		t.Errorf("Num(8) = %x", n)
	}
	if b := v.Raw(0); len(b) != 0 {
		t.Errorf("Raw(0) = %x", b)
	}
	v.Skip(0)
	if n := v.Num(1); n != 0x11 {
		t.Errorf("Num(1) = %x", n)
	}
	if b := v.Raw(3); !bytes.Equal(b, []byte{18, 19, 20}) {
		t.Errorf("Raw(3) = %x", b)
	}
	stands(t, "at the end", v, 20, 0, api.OK)
	v.Raw(0)
	v.Skip(0)
	stands(t, "nothing from the end", v, 20, 0, api.OK)
	is(t, "the rope", r, count(20))
}

func TestReadFromEveryPlace(t *testing.T) {
	r := rope.New(count(9))
	for at := 0; at <= 9; at++ {
		stands(t, "Read", r.Read(at), at, 9-at, api.OK)
		for _, w := range widths {
			v := r.Read(at)
			got := v.Num(w)
			if want, e := r.At(at, w); got != want || v.Err() != e {
				t.Errorf("Num(%d) at %d = %x, %d", w, at, got, v.Err())
			}
		}
	}
	for _, at := range append([]int{10, 11}, far...) {
		v := r.Read(at)
		stands(t, "Read beyond", v, 0, 0, api.ErrRange)
		if v.Num(1) != 0 || len(v.Raw(1)) != 0 {
			t.Error("Read beyond reads")
		}
		v.Num(3)
		v.Skip(1)
		stands(t, "Read beyond, later", v, 0, 0, api.ErrRange)
	}
	v := rope.New().Read(0)
	stands(t, "an empty rope", v, 0, 0, api.OK)
	v.Skip(1)
	stands(t, "an empty rope, beyond", v, 0, 0, api.ErrRange)
}

// spent checks that a view that failed at a position of ten bytes stays there with its error, whatever is asked.
func spent(t *testing.T, what string, v *rope.View, at int, e api.Errno) {
	t.Helper()
	stands(t, what, v, at, 0, e)
	for _, n := range []int{0, 1, 2, -1, 3, 9, math.MaxInt} {
		if v.Num(n) != 0 || len(v.Raw(n)) != 0 {
			t.Errorf("%s: something is read after an error", what)
		}
		v.Skip(n)
	}
	stands(t, what+", later", v, at, 0, e)
}

func TestViewErrors(t *testing.T) {
	r := rope.New(count(10))
	for _, at := range []int{0, 4, 9, 10} {
		for _, n := range append([]int{11 - at, 12 - at, 11}, far...) {
			v := r.Read(at)
			if b := v.Raw(n); len(b) != 0 {
				t.Errorf("Raw(%d) at %d = %x", n, at, b)
			}
			spent(t, "Raw", v, at, api.ErrRange)
			v = r.Read(at)
			v.Skip(n)
			spent(t, "Skip", v, at, api.ErrRange)
		}
		for _, w := range noWidths {
			v := r.Read(at)
			if n := v.Num(w); n != 0 {
				t.Errorf("Num(%d) at %d = %x", w, at, n)
			}
			spent(t, "Num of no width", v, at, api.ErrArg)
		}
		for _, w := range widths {
			v := r.Read(11 - w)
			if n := v.Num(w); n != 0 {
				t.Errorf("Num(%d) beyond = %x", w, n)
			}
			spent(t, "Num beyond", v, 11-w, api.ErrRange)
		}
	}
}

func TestViewStaysWhereItFailed(t *testing.T) {
	v := rope.New(count(10)).Read(1)
	v.Num(4)
	v.Raw(2)
	v.Num(8)
	spent(t, "on the way", v, 7, api.ErrRange)
	v = rope.New(count(10)).Read(2)
	v.Skip(3)
	v.Num(5)
	spent(t, "on the way, no width", v, 5, api.ErrArg)
}

func TestViewReadsWhatWas(t *testing.T) {
	r := rope.New(count(4))
	v := r.Read(0)
	r.Set(0, 1, 99)
	r.Num(1, 98)
	r.Raw([]byte{97})
	r.Pad(16)
	stands(t, "an old view", v, 0, 4, api.OK)
	if b := v.Raw(4); !bytes.Equal(b, count(4)) {
		t.Errorf("an old view reads %x", b)
	}
	stands(t, "an old view, at its end", v, 4, 0, api.OK)
	v = r.Read(0)
	if b := v.Raw(7); !bytes.Equal(b, []byte{99, 2, 3, 4, 98, 97, 0}) {
		t.Errorf("a new view reads %x", b)
	}
	stands(t, "a new view", v, 7, 9, api.OK)
}

func TestViewsAreApart(t *testing.T) {
	r := rope.New(count(8))
	v, w := r.Read(0), r.Read(2)
	v.Skip(5)
	w.Skip(7)
	stands(t, "the one", v, 5, 3, api.OK)
	stands(t, "the other", w, 2, 0, api.ErrRange)
	is(t, "the rope", r, count(8))
}

// nil ropes and nil views

func TestNilRope(t *testing.T) {
	var r *rope.Rope
	for _, w := range []int{1, 8, 3, math.MinInt} {
		fails(t, "Num", r.Num(w, 1), api.ErrNil)
		fails(t, "Pad", r.Pad(w), api.ErrNil)
		for _, at := range []int{0, -1, math.MaxInt} {
			fails(t, "Set", r.Set(at, w, 1), api.ErrNil)
			if v, e := r.At(at, w); v != 0 || e != api.ErrNil {
				t.Error("At", v, e)
			}
			if b, e := r.Cut(at, w); len(b) != 0 || e != api.ErrNil {
				t.Error("Cut", b, e)
			}
			if s, e := r.Str(at, w); s != "" || e != api.ErrNil {
				t.Error("Str", s, e)
			}
			v := r.Read(at)
			if v == nil {
				t.Fatal("Read returns nil")
			}
			spent(t, "Read", v, 0, api.ErrNil)
		}
	}
	fails(t, "Num of nothing", r.Num(1), api.ErrNil)
	fails(t, "Text", r.Text("a"), api.ErrNil)
	fails(t, "Text of a byte 0", r.Text("\x00"), api.ErrNil)
	fails(t, "Text of nothing", r.Text(), api.ErrNil)
	r.Raw([]byte{1})
	r.Raw()
	if r.Len() != 0 || len(r.Bytes()) != 0 {
		t.Error("Len, Bytes", r.Len(), r.Bytes())
	}
}

func TestNilView(t *testing.T) {
	var v *rope.View
	for _, n := range []int{0, 1, 8, 3, -1, math.MinInt, math.MaxInt} {
		if v.Num(n) != 0 || len(v.Raw(n)) != 0 {
			t.Error("something is read")
		}
		v.Skip(n)
	}
	stands(t, "nil", v, 0, 0, api.ErrNil)
}

// P2.4

func TestWhatNumWroteIsRead(t *testing.T) {
	l := []uint64{0, 1, 0x80, 0xFF, 0x8000, 0xFFFF, 0x80000000, 0x0123456789ABCDEF, 1 << 63, math.MaxUint64}
	for _, w := range widths {
		for lead := range 3 {
			r := rope.New(count(lead))
			fails(t, "Num", r.Num(w, l...), api.OK)
			v := r.Read(lead)
			for k, x := range l {
				want := x & (math.MaxUint64 >> (64 - 8*w))
				if got, e := r.At(lead+k*w, w); got != want || e != api.OK {
					t.Errorf("At: %x of width %d is %x, %d", x, w, got, e)
				}
				if got := v.Num(w); got != want {
					t.Errorf("a view: %x of width %d is %x", x, w, got)
				}
			}
			stands(t, "behind the numbers", v, lead+len(l)*w, 0, api.OK)
		}
	}
}

// P2.5

// spoil writes into a result and behind it.
func spoil(b []byte) {
	for k := range b {
		b[k] = 0xEE
	}
	_ = append(b, 0xEE, 0xEE, 0xEE)
}

func TestResultsShareNothing(t *testing.T) {
	r := rope.New(count(8))
	v, w := r.Read(0), r.Read(0)
	a, b := r.Bytes(), r.Bytes()
	c, _ := r.Cut(2, 4)
	d, _ := r.Cut(2, 4)
	x, y := v.Raw(4), w.Raw(4)
	for _, p := range []struct{ spoilt, other, want []byte }{
		{a, b, count(8)},
		{c, d, count(6)[2:]},
		{x, y, count(4)},
	} {
		spoil(p.spoilt)
		if !bytes.Equal(p.other, p.want) {
			t.Errorf("a result changed: %x", p.other)
		}
	}
	is(t, "the rope", r, count(8))
	if got := v.Raw(4); !bytes.Equal(got, count(8)[4:]) {
		t.Errorf("the view changed: %x", got)
	}
	r.Set(0, 8, 0)
	r.Num(8, 0)
	if !bytes.Equal(b, count(8)) || !bytes.Equal(d, count(6)[2:]) || !bytes.Equal(y, count(4)) {
		t.Error("a result changed with the rope")
	}
}

func TestAppendedResultsDoNotMeetTheRope(t *testing.T) {
	r := rope.New(count(3))
	one := append(r.Bytes(), 77)
	r.Num(1, 4, 5)
	two := append(r.Bytes(), 88)
	r.Num(1, 6)
	is(t, "the rope", r, count(6))
	if one[3] != 77 || two[5] != 88 {
		t.Error("what was appended to a result changed:", one, two)
	}
	cut, _ := r.Cut(0, 2)
	_ = append(cut, 99)
	v := r.Read(0)
	_ = append(v.Raw(2), 99)
	if n := v.Num(1); n != 3 {
		t.Error("the view changed:", n)
	}
	is(t, "the rope, later", r, count(6))
}

func TestRopeAppendedToItself(t *testing.T) {
	r := rope.New(count(5))
	r.Raw(r.Bytes(), r.Bytes())
	is(t, "thrice", r, append(append(count(5), count(5)...), count(5)...))
}
