package lay

import (
	"slices"

	"calque/a64"
	"calque/emit"
)

// label is what tells labels apart.
type label struct {
	to  uint64
	ver int
}

// draft is lines on the way to their words.
type draft struct {
	Laid
	lines []emit.Line
	reach int64
	size  []uint64 // by line, in bytes
	goal  []int    // by line, the number in at of what it refers to
	at    []uint64 // by line, its address; then the one of the search, and that for what is missing
}

// aim finds out what each line refers to, unless two labels are the same.
func (d *draft) aim(find, fault uint64) bool {
	search, missing := len(d.lines), len(d.lines)+1
	d.at = append(make([]uint64, len(d.lines)), find, fault)
	labels := map[label]int{}
	for k, l := range d.lines {
		if !l.Label {
			continue
		}
		if _, ok := labels[label{l.To, l.Ver}]; ok {
			return false
		}
		labels[label{l.To, l.Ver}] = k
	}
	d.goal = make([]int, len(d.lines))
	for k, l := range d.lines {
		n, ok := labels[label{l.To, l.Ver}]
		switch {
		case l.Ref == emit.Find:
			n = search
		case !ok:
			n = missing
		}
		d.goal[k] = n
	}
	return true
}

// settle gives lines their sizes and addresses, unless there are too many words.
func (d *draft) settle() bool {
	var short []int // the lines that may still grow
	for k, l := range d.lines {
		n := uint64(0)
		if l.Real() {
			n = wordBytes
		}
		d.size = append(d.size, n)
		if grows(l) {
			short = append(short, k)
		}
	}
	for d.place() <= mostWords {
		n := len(short)
		if short = slices.DeleteFunc(short, d.stretch); len(short) == n {
			return true
		}
	}
	return false
}

// place gives lines their addresses, and returns how many words they take.
func (d *draft) place() uint64 {
	end := d.Base
	for k, n := range d.size {
		d.at[k] = end
		end += n
	}
	return (end - d.Base) / wordBytes
}

// away returns how far what a line refers to is from an address.
func (d *draft) away(k int, from uint64) int64 {
	return int64(d.at[d.goal[k]] - from)
}

// stretch makes a line long if what it refers to is too far away, and reports whether it is. The addresses stay until all lines have been looked at.
func (d *draft) stretch(k int) bool {
	n := d.away(k, d.at[k])
	if -d.reach <= n && n <= d.reach {
		return false
	}
	d.size[k] = longBytes
	return true
}

// write makes words and places, unless a B would have to reach too far.
func (d *draft) write() bool {
	for k, l := range d.lines {
		if l.Label {
			d.Labels = append(d.Labels, Place{To: l.To, At: d.at[k], Ver: l.Ver})
		}
		if l.Bound {
			d.Bounds = append(d.Bounds, Place{To: l.To, At: d.at[k]})
		}
		if l.Real() && !d.encode(k, l) {
			return false
		}
	}
	return true
}

// encode adds the words of an instruction, unless it is a B that would have to reach too far.
func (d *draft) encode(k int, l emit.Line) bool {
	i, at := l.Inst, d.at[k]
	if d.size[k] == longBytes {
		d.add(over(i))
		i, at = a64.Inst{Op: a64.B, W: i.W}, at+wordBytes
	}
	if refers(l) {
		i.Off = d.away(k, at)
	}
	if i.Op == a64.B && (i.Off < -mostB || i.Off > mostB) {
		return false
	}
	d.add(i)
	return true
}

// add adds the word of an instruction that is valid.
func (d *draft) add(i a64.Inst) {
	word, _ := a64.Encode(i)
	d.Words = append(d.Words, word)
}

// over is the jump over the next word where an instruction does not jump.
func over(i a64.Inst) a64.Inst {
	switch i.Op {
	case a64.Bcc:
		i.Cond ^= 1
	case a64.Cbz:
		i.Op = a64.Cbnz
	case a64.Cbnz:
		i.Op = a64.Cbz
	}
	i.Off = longBytes
	return i
}
