// Package rope is layer 2: bytes, written and read, the lowest first. See shared/doc/02-rope.md.
package rope

import (
	"bytes"
	"strings"

	"calque/api"
	"calque/bits"
)

// store is the bytes that a rope grows and a view reads.
type store struct {
	data []byte
}

// size is the number of bytes.
func (s *store) size() int {
	return len(s.data)
}

// room is the number of bytes that may still be added.
func (s *store) room() int {
	return api.MaxFile - len(s.data)
}

// inside reports whether at is a position in the bytes or their end.
func (s *store) inside(at int) bool {
	return at >= 0 && at <= len(s.data)
}

// has reports whether there are n bytes from at on. It subtracts, for a sum may wrap.
func (s *store) has(at, n int) bool {
	return s.inside(at) && n >= 0 && n <= len(s.data)-at
}

// place tells why there is no number of width w at a position, or OK.
func (s *store) place(at, w int) api.Errno {
	switch {
	case !bits.Is(w):
		return api.ErrArg
	case !s.has(at, w):
		return api.ErrRange
	}
	return api.OK
}

// number is the number of w bytes at a position that has them.
func (s *store) number(at, w int) uint64 {
	var l [8]byte
	copy(l[:w], s.data[at:])
	var v uint64
	for k, b := range l {
		v |= uint64(b) << (8 * k)
	}
	return v
}

// clone is a copy of n bytes at a position that has them.
func (s *store) clone(at, n int) []byte {
	out := make([]byte, n)
	copy(out, s.data[at:])
	return out
}

// add appends bytes for which there is room.
func (s *store) add(b ...byte) {
	s.data = append(s.data, b...)
}

// octets are the eight bytes of a number, the lowest first.
func octets(v uint64) [8]byte {
	var l [8]byte
	for k := range l {
		l[k] = byte(v >> (8 * k))
	}
	return l
}

// Rope is at most api.MaxFile bytes that grow.
type Rope struct{ store }

// New returns a rope of all parts, one behind the other, as far as there is room.
func New(parts ...[]byte) *Rope {
	r := &Rope{}
	for _, p := range parts {
		r.add(p[:min(len(p), r.room())]...)
	}
	return r
}

// Num appends the w lowest bytes of each number.
func (r *Rope) Num(w int, l ...uint64) api.Errno {
	switch {
	case r == nil:
		return api.ErrNil
	case !bits.Is(w):
		return api.ErrArg
	case len(l) > r.room()/w:
		return api.ErrFull
	}
	for _, v := range l {
		b := octets(v)
		r.add(b[:w]...)
	}
	return api.OK
}

// Raw appends all parts, or nothing if there is no room for all of them.
func (r *Rope) Raw(parts ...[]byte) {
	if r == nil {
		return
	}
	room := r.room()
	for _, p := range parts {
		if len(p) > room {
			return
		}
		room -= len(p)
	}
	for _, p := range parts {
		r.add(p...)
	}
}

// Text appends each string and a byte 0 behind it.
func (r *Rope) Text(l ...string) api.Errno {
	if r == nil {
		return api.ErrNil
	}
	for _, s := range l {
		if strings.IndexByte(s, 0) >= 0 {
			return api.ErrArg
		}
	}
	room := r.room()
	for _, s := range l {
		if len(s) >= room {
			return api.ErrFull
		}
		room -= len(s) + 1
	}
	for _, s := range l {
		r.data = append(r.data, s...)
		r.add(0)
	}
	return api.OK
}

// Pad appends bytes 0 until the length is a multiple of to.
func (r *Rope) Pad(to int) api.Errno {
	if r == nil {
		return api.ErrNil
	}
	if to < 1 || to > 1<<16 {
		return api.ErrArg
	}
	n := (to - r.size()%to) % to
	if n > r.room() {
		return api.ErrFull
	}
	r.add(make([]byte, n)...)
	return api.OK
}

// Set overwrites the w bytes from at on with those of v.
func (r *Rope) Set(at, w int, v uint64) api.Errno {
	if r == nil {
		return api.ErrNil
	}
	if e := r.place(at, w); e != api.OK {
		return e
	}
	b := octets(v)
	copy(r.data[at:], b[:w])
	return api.OK
}

// Len returns the number of bytes.
func (r *Rope) Len() int {
	if r == nil {
		return 0
	}
	return r.size()
}

// Bytes returns a copy of all bytes.
func (r *Rope) Bytes() []byte {
	if r == nil {
		return nil
	}
	return r.clone(0, r.size())
}

// At returns the number of the w bytes from at on.
func (r *Rope) At(at, w int) (uint64, api.Errno) {
	if r == nil {
		return 0, api.ErrNil
	}
	if e := r.place(at, w); e != api.OK {
		return 0, e
	}
	return r.number(at, w), api.OK
}

// Cut returns a copy of the n bytes from at on.
func (r *Rope) Cut(at, n int) ([]byte, api.Errno) {
	if r == nil {
		return nil, api.ErrNil
	}
	if !r.has(at, n) {
		return nil, api.ErrRange
	}
	return r.clone(at, n), api.OK
}

// Str returns the bytes from at on that precede a byte 0, at most most of them.
func (r *Rope) Str(at, most int) (string, api.Errno) {
	if r == nil {
		return "", api.ErrNil
	}
	if !r.inside(at) {
		return "", api.ErrRange
	}
	n := bytes.IndexByte(r.data[at:], 0)
	switch {
	case n < 0:
		return "", api.ErrRange
	case n > max(most, 0):
		return "", api.ErrLong
	}
	return string(r.data[at : at+n]), api.OK
}

// View reads one thing behind the other, from bytes as they were when it was made.
type View struct {
	store
	at  int
	err api.Errno
}

// Read returns a view at a position of the bytes.
func (r *Rope) Read(at int) *View {
	switch {
	case r == nil:
		return &View{err: api.ErrNil}
	case !r.inside(at):
		return &View{err: api.ErrRange}
	}
	// A copy, for Set may overwrite the rope's bytes while the view is still read.
	return &View{store: store{r.Bytes()}, at: at}
}

// take moves the view behind n bytes and returns where they begin. If they are not there, or the view has failed, it stays.
func (v *View) take(n int) (int, bool) {
	if v == nil || v.err != api.OK {
		return 0, false
	}
	if !v.has(v.at, n) {
		v.err = api.ErrRange
		return 0, false
	}
	from := v.at
	v.at += n
	return from, true
}

// Num reads the number of the next w bytes.
func (v *View) Num(w int) uint64 {
	if v == nil || v.err != api.OK {
		return 0
	}
	if !bits.Is(w) {
		v.err = api.ErrArg
		return 0
	}
	from, ok := v.take(w)
	if !ok {
		return 0
	}
	return v.number(from, w)
}

// Raw reads a copy of the next n bytes.
func (v *View) Raw(n int) []byte {
	from, ok := v.take(n)
	if !ok {
		return nil
	}
	return v.clone(from, n)
}

// Skip passes over the next n bytes.
func (v *View) Skip(n int) {
	v.take(n)
}

// Err returns the first error, or OK.
func (v *View) Err() api.Errno {
	if v == nil {
		return api.ErrNil
	}
	return v.err
}

// At returns the position, which is 0 if it was never valid.
func (v *View) At() int {
	if v == nil {
		return 0
	}
	return v.at
}

// Left returns the number of bytes that are still to be read, none after an error.
func (v *View) Left() int {
	if v == nil || v.err != api.OK {
		return 0
	}
	return v.size() - v.at
}
