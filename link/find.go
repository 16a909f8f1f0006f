package link

import (
	"slices"

	"calque/a64"
	"calque/api"
	"calque/emit"
	"calque/sel"
)

// The registers of a search: the rows that are left are those from low on up to before high.
const (
	low = sel.First + iota
	high
	table
	middle
	row
	key
)

// How rows of the table are made.
const (
	rowBits = 4         // a row has two to the power of so many bytes
	target  = wordBytes // where a row has what is jumped to
)

// Finder returns the lines that look for a block in a table of n addresses: they halve what is left until nothing is.
func Finder(n int) []emit.Line {
	const w = wordBytes
	var lines []emit.Line
	for _, i := range slices.Concat(sel.Const(low, 0), sel.Const(high, uint64(max(n, 0))), sel.Const(table, Table), []a64.Inst{
		{Op: a64.Subs, W: w, D: a64.Zr, N: low, M: high},
		{Op: a64.Bcc, W: w, Cond: a64.Cs, Off: 12 * instBytes}, // to the Brk
		{Op: a64.Add, W: w, D: middle, N: low, M: high},
		{Op: a64.Ubfm, W: w, D: middle, N: middle, R: 1, S: 63},
		{Op: a64.Add, W: w, D: row, N: table, M: middle, S: rowBits},
		{Op: a64.Ldr, W: w, D: key, N: row},
		{Op: a64.Subs, W: w, D: a64.Zr, N: key, M: sel.Other},
		{Op: a64.Bcc, W: w, Cond: a64.Eq, Off: 4 * instBytes}, // to the second Ldr
		{Op: a64.Csinc, W: w, D: low, N: low, M: middle, Cond: a64.Cs},
		{Op: a64.Csel, W: w, D: high, N: middle, M: high, Cond: a64.Cs},
		{Op: a64.B, W: w, Off: -10 * instBytes}, // to the first Subs
		{Op: a64.Ldr, W: w, D: row, N: row, Imm: target},
		{Op: a64.Br, W: w, N: row},
		{Op: a64.Brk, W: w, Imm: api.Refuses},
	}) {
		lines = append(lines, emit.Line{Inst: i})
	}
	return lines
}
