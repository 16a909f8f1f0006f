package a64_test

import (
	"strconv"
	"strings"
	"testing"

	"calque/a64"
	"calque/api"
	"calque/logim"
)

// words are the words of a text.
func words(s string) []string {
	return strings.Fields(s)
}

// parts put a number into a field that has a name.
var parts = map[string]func(*a64.Inst, int64){
	"D":    func(i *a64.Inst, v int64) { i.D = int(v) },
	"N":    func(i *a64.Inst, v int64) { i.N = int(v) },
	"M":    func(i *a64.Inst, v int64) { i.M = int(v) },
	"A":    func(i *a64.Inst, v int64) { i.A = int(v) },
	"Imm":  func(i *a64.Inst, v int64) { i.Imm = uint64(v) },
	"S":    func(i *a64.Inst, v int64) { i.S = int(v) },
	"R":    func(i *a64.Inst, v int64) { i.R = int(v) },
	"Cond": func(i *a64.Inst, v int64) { i.Cond = int(v) },
	"Off":  func(i *a64.Inst, v int64) { i.Off = v },
}

// order is the order of the fields in the text.
const order = "D N M A Imm S R Cond Off"

// read is a field's number in an instruction.
func read(i a64.Inst, name string) int64 {
	switch name {
	case "D":
		return int64(i.D)
	case "N":
		return int64(i.N)
	case "M":
		return int64(i.M)
	case "A":
		return int64(i.A)
	case "Imm":
		return int64(i.Imm)
	case "S":
		return int64(i.S)
	case "R":
		return int64(i.R)
	case "Cond":
		return int64(i.Cond)
	}
	return i.Off
}

// table is the document's table, a row a line: operations, bases, and fields with where they stand and what they may be: a limit that they are below, or a name. D may not be Zr where it is called D-, N where it is called N-.
const table = `AddI SubI|91000000 D1000000|D-@0 N-@5 Imm@10<4096
AddsI SubsI|B1000000 F1000000|D@0 N-@5 Imm@10<4096
Add Sub Adds Subs And Orr Eor Ands|8B000000 CB000000 AB000000 EB000000 8A000000 AA000000 CA000000 EA000000|D@0 N@5 M@16 S@10<64
AndI OrrI EorI|92000000 B2000000 D2000000|D-@0 N@5 Imm@10<logical
Movz Movn Movk|D2800000 92800000 F2800000|D@0 Imm@5<65536 S@21<4
Madd Msub|9B000000 9B008000|D@0 N@5 A@10 M@16
Umulh Smulh Udiv Sdiv Lslv Lsrv Asrv Rorv|9BC07C00 9B407C00 9AC00800 9AC00C00 9AC02000 9AC02400 9AC02800 9AC02C00|D@0 N@5 M@16
Ubfm Sbfm|D3400000 93400000|D@0 N@5 S@10<64 R@16<64
Csel Csinc|9A800000 9A800400|D@0 N@5 M@16 Cond@12<16
Ldr Str|39400000 39000000|D@0 N-@5 Imm@10<scaled
Ldapr Stlr Ldaxr|38BFC000 089FFC00 085FFC00|D@0 N-@5
Stlxr|0800FC00|D@0 N-@5 M@16<other
Dmb|D50330BF|Imm@8<fence
B|14000000|Off@0<28
Bcc|54000000|Cond@0<16 Off@5<21
Cbz Cbnz|B4000000 B5000000|D@0 Off@5<21
Br|D61F0000|N@5
Svc Brk|D4000001 D4200000|Imm@5<65536
Nop|D503201F|`

// row is what the table says of an operation.
type row struct {
	name   string
	base   uint64
	fields map[string]string // behind the name
}

// rows are the operations' rows, in the order of their numbers, which the document gives; Nop is 47.
func rows() []row {
	byName := map[string]row{}
	for line := range strings.Lines(table) {
		cells := strings.Split(strings.TrimSuffix(line, "\n"), "|")
		fields := map[string]string{}
		for _, f := range words(cells[2]) {
			name := strings.TrimRight(f[:strings.IndexByte(f, '@')], "-")
			fields[name] = f[len(name):]
		}
		for k, name := range words(cells[0]) {
			base, err := strconv.ParseUint(words(cells[1])[k], 16, 32)
			if err != nil {
				panic(err)
			}
			byName[name] = row{name, base, fields}
		}
	}
	l := []row{{}}
	const all = "AddI SubI AddsI SubsI Add Sub Adds Subs And Orr Eor Ands AndI OrrI EorI Movz Movn Movk Madd Msub Umulh Smulh Udiv Sdiv Lslv Lsrv Asrv Rorv Ubfm Sbfm Csel Csinc Ldr Str Ldapr Stlr Ldaxr Stlxr Dmb B Bcc Cbz Cbnz Br Svc Brk Nop"
	for _, name := range words(all) {
		l = append(l, byName[name])
	}
	return l
}

// placed is what a field adds to the word, and whether its number is one that it may be.
func placed(i a64.Inst, name, how string) (uint64, bool) {
	v := read(i, name)
	ok := true
	if how[0] == '-' {
		ok = v != 31
		how = how[1:]
	}
	spot, limit, has := strings.Cut(how[1:], "<")
	at, _ := strconv.Atoi(spot)
	switch limit {
	case "":
		ok = ok && v >= 0 && v < 32
	case "logical":
		b, may := logim.Encode(i.Imm)
		ok, v = may, int64(b)
	case "scaled":
		ok = v >= 0 && v < 4096*int64(i.W) && v%int64(i.W) == 0
		v /= int64(i.W)
	case "other":
		ok = v >= 0 && v < 32 && v != int64(i.D) && v != int64(i.N)
	case "fence":
		ok = v >= 9 && v <= 11
	case "28", "21":
		n, _ := strconv.Atoi(limit)
		half := int64(1) << (n - 1)
		ok = v >= -half && v < half && v%4 == 0
		v = (v + 2*half) % (2 * half) / 4
	default:
		n, _ := strconv.ParseInt(limit, 10, 64)
		ok = has && v >= 0 && v < n
	}
	return uint64(v) << at, ok
}

// reading is the second reading: the word and the text of an instruction, if it is valid.
func reading(l []row, i a64.Inst) (uint32, string, bool) {
	if i.Op < 1 || i.Op >= len(l) {
		return 0, "?", false
	}
	r := l[i.Op]
	word, text := r.base, strings.ToLower(r.name)
	switch r.name {
	case "Ldr", "Str", "Ldapr", "Stlr", "Ldaxr", "Stlxr":
		size, ok := map[int]uint64{1: 0, 2: 1, 4: 2, 8: 3}[i.W]
		if !ok {
			return 0, "?", false
		}
		word += size << 30
		text += "." + strconv.Itoa(i.W)
	default:
		if i.W != 8 {
			return 0, "?", false
		}
	}
	for _, name := range words(order) {
		how, has := r.fields[name]
		if !has {
			if read(i, name) != 0 {
				return 0, "?", false
			}
			continue
		}
		v, ok := placed(i, name, how)
		if !ok {
			return 0, "?", false
		}
		word += v
		text += " "
		if strings.Contains("D N M A", name) {
			text += "x"
		}
		if name == "Imm" {
			text += strconv.FormatUint(i.Imm, 10)
		} else {
			text += strconv.FormatInt(read(i, name), 10)
		}
	}
	return uint32(word), text, true
}

// dice throws numbers, the same ones each time.
type dice struct{ n uint64 }

// of is a number below n.
func (d *dice) of(n int) int {
	d.n = d.n*6364136223846793005 + 1442695040888963407
	return int(d.n >> 33 % uint64(n))
}

// thrown is an instruction whose fields are mostly such as its operation may have.
func (d *dice) thrown(l []row) a64.Inst {
	i := a64.Inst{Op: 1 + d.of(47), W: 8}
	memory := i.Op >= a64.Ldr && i.Op <= a64.Stlxr
	if memory {
		i.W = 1 << d.of(4)
	}
	for _, name := range words(order) {
		if _, has := l[i.Op].fields[name]; !has {
			continue
		}
		switch name {
		case "Imm":
			i.Imm = d.immediate(l[i.Op].fields[name])
		case "Off":
			i.Off = int64(d.of(1<<20)-1<<19) * 4 >> d.of(16) &^ 3
		default:
			v := d.of(32)
			if strings.Contains(l[i.Op].fields[name], "<") {
				v = d.of([]int{4, 16, 32, 64}[d.of(4)])
			}
			parts[name](&i, int64(v))
		}
	}
	if d.of(8) == 0 {
		spoil := words(order)[d.of(9)]
		parts[spoil](&i, []int64{-1, 1, 2, 31, 32, 64, 4096, 65536, 1 << 27, 1 << 63 >> 1, -1 << 63}[d.of(11)])
	}
	if d.of(50) == 0 {
		i.W = d.of(17)
	}
	return i
}

// immediate is a number for a field.
func (d *dice) immediate(how string) uint64 {
	switch {
	case strings.HasSuffix(how, "logical"):
		size := 2 << d.of(6)
		return logim.Turned(size, 1+d.of(size-1), d.of(size))
	case strings.HasSuffix(how, "fence"):
		return uint64(8 + d.of(5))
	case strings.HasSuffix(how, "scaled"):
		return uint64(d.of(4200) * (1 << d.of(4)))
	}
	return uint64(d.of(1 << (1 + d.of(17))))
}

// P20.1, P20.3: thrown instructions have the word and the text of the second reading, and are valid if it says so; different ones have different words and texts.
func TestReading(t *testing.T) {
	l := rows()
	d := dice{20}
	byWord, byText := map[uint32]a64.Inst{}, map[string]a64.Inst{}
	valid := 0
	for range 300000 {
		i := d.thrown(l)
		word, text, ok := reading(l, i)
		if got := a64.May(i); got != ok {
			t.Fatalf("May(%+v) = %t", i, got)
		}
		want := api.OK
		if !ok {
			want = api.ErrArg
		}
		if w, e := a64.Encode(i); w != word || e != want {
			t.Fatalf("Encode(%+v) = %08X, %d, want %08X, %d", i, w, e, word, want)
		}
		if s := a64.Show(i); s != text {
			t.Fatalf("Show(%+v) = %q, want %q", i, s, text)
		}
		if !ok {
			continue
		}
		valid++
		if j, has := byWord[word]; has && j != i {
			t.Fatalf("%+v and %+v have the word %08X", i, j, word)
		}
		if j, has := byText[text]; has && j != i {
			t.Fatalf("%+v and %+v have the text %s", i, j, text)
		}
		byWord[word], byText[text] = i, i
	}
	if valid < 150000 || len(byWord) < 100000 {
		t.Errorf("%d valid instructions, %d words: too few to tell", valid, len(byWord))
	}
}
