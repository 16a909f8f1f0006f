package xinst_test

import (
	"fmt"
	"math"
	"slices"
	"strconv"
	"strings"
	"testing"

	"calque/xinst"
)

// The operations in the document's order: an operation's number is its place here, from 1 on.
var names = strings.Fields(`add or adc sbb and sub xor cmp test mov movzx movsx lea push pop inc dec not neg mul smul div sdiv
	imul imuli rol ror shl shr sar xchg cas xadd cmov set jcc jmp call ret wide sign movs stos fence nop sys ud`)

// numbers are the constants, in the same order.
var numbers = []int{
	xinst.Add, xinst.Or, xinst.Adc, xinst.Sbb, xinst.And, xinst.Sub, xinst.Xor, xinst.Cmp, xinst.Test, xinst.Mov, xinst.Movzx, xinst.Movsx,
	xinst.Lea, xinst.Push, xinst.Pop, xinst.Inc, xinst.Dec, xinst.Not, xinst.Neg, xinst.Mul, xinst.Smul, xinst.Div, xinst.Sdiv,
	xinst.Imul, xinst.Imuli, xinst.Rol, xinst.Ror, xinst.Shl, xinst.Shr, xinst.Sar, xinst.Xchg, xinst.Cas, xinst.Xadd, xinst.Cmov, xinst.Set,
	xinst.Jcc, xinst.Jmp, xinst.Call, xinst.Ret, xinst.Wide, xinst.Sign, xinst.Movs, xinst.Stos, xinst.Fence, xinst.Nop, xinst.Sys, xinst.Ud,
}

// The document's table: operations | widths | A | B | more. Of the operands, - is none, r a register, m memory, i an immediate, 1 the register 1.
const table = `
add or adc sbb and sub xor cmp mov | 1 2 4 8 | rm  | rmi | notboth
test                               | 1 2 4 8 | rm  | ri  |
movzx movsx                        | 2 4 8   | r   | rm  | w2
lea                                | 2 4 8   | r   | m   |
push                               | 8       | rmi | -   |
pop                                | 8       | rm  | -   |
inc dec not neg mul smul           | 1 2 4 8 | rm  | -   |
div sdiv                           | 1 2 4   | rm  | -   |
imul                               | 2 4 8   | r   | rm  |
imuli                              | 2 4 8   | r   | rm  | number
rol ror shl shr sar                | 1 2 4 8 | rm  | i1  | turn
xchg cas xadd                      | 1 2 4 8 | rm  | r   |
cmov                               | 2 4 8   | r   | rm  | cc
set                                | 1       | rm  | -   | cc
jcc                                | 8       | -   | -   | cc number
jmp call                           | 8       | -rm | -   | number
ret fence nop sys ud               | 8       | -   | -   |
wide sign                          | 2 4 8   | -   | -   |
movs stos                          | 1 2 4 8 | -   | -   | rep
`

const (
	lockable = "add or adc sbb and sub xor inc dec not neg xchg cas xadd"
	noLoad   = "lea nop set pop"
	noStore  = "cmp test push mul smul div sdiv jmp call"
	loads    = "pop ret movs"
	stores   = "push call movs stos"
	uses     = "adc sbb cmov set jcc sys"
	sets     = "add or adc sbb and sub xor cmp test inc dec neg mul smul imul imuli rol ror shl shr sar cas xadd"
	ends     = "jcc jmp call ret sys ud"
)

// rule is a row of the table for one operation.
type rule struct {
	w          []int
	a, b, more string
}

// rules are those of all operations, by their numbers.
func rules() map[int]rule {
	out := map[int]rule{}
	for _, line := range strings.Split(strings.TrimSpace(table), "\n") {
		f := strings.Split(line, "|")
		r := rule{a: f[2], b: f[3], more: f[4]}
		for _, w := range strings.Fields(f[1]) {
			n, _ := strconv.Atoi(w)
			r.w = append(r.w, n)
		}
		for _, name := range strings.Fields(f[0]) {
			out[slices.Index(names, name)+1] = r
		}
	}
	return out
}

// among reports whether an operation is one of a list of names.
func among(op int, list string) bool {
	return op >= 1 && op <= len(names) && strings.Contains(" "+list+" ", " "+names[op-1]+" ")
}

// letter is the kind of a valid operand, as the table writes it.
func letter(o xinst.Opd) string {
	return []string{"-", "r", "m", "i"}[o.Kind]
}

// fits reports whether an operand is one of those that the table names.
func fits(o xinst.Opd, kinds string) bool {
	return strings.Contains(kinds, letter(o)) || strings.Contains(kinds, "1") && o == xinst.R(1)
}

// signed reports whether a number is one of so many bytes.
func signed(v int64, n int) bool {
	return n == 8 || v >= -1<<(8*n-1) && v < 1<<(8*n-1)
}

// goodAddr reports whether an address is valid.
func goodAddr(a xinst.Addr) bool {
	if a.Base < -1 || a.Base > 16 || a.Index < -1 || a.Index > 15 || a.Index == 4 || !signed(a.Disp, 4) {
		return false
	}
	if a.Base == 16 && a.Index != -1 || a.Index == -1 && a.Scale != 1 {
		return false
	}
	return a.Scale == 1 || a.Scale == 2 || a.Scale == 4 || a.Scale == 8
}

// goodOpd reports whether an operand is valid.
func goodOpd(o xinst.Opd) bool {
	switch o.Kind {
	case 0, 3:
		return o.Reg == 0 && o.Addr == xinst.Addr{}
	case 1:
		return o.Reg >= 0 && o.Reg <= 15 && o.Addr == xinst.Addr{}
	case 2:
		return o.Reg == 0 && goodAddr(o.Addr)
	}
	return false
}

// good reports whether an instruction is valid.
func good(i xinst.Inst, all map[int]rule) bool {
	r, ok := all[i.Op]
	if !ok || !slices.Contains(r.w, i.W) || !goodOpd(i.A) || !goodOpd(i.B) || !fits(i.A, r.a) || !fits(i.B, r.b) {
		return false
	}
	if strings.Contains(r.more, "notboth") && i.A.Kind == 2 && i.B.Kind == 2 {
		return false
	}
	if i.Len < 0 || i.Len > 15 {
		return false
	}
	if i.Rep && !strings.Contains(r.more, "rep") || i.Lock && !(i.A.Kind == 2 && among(i.Op, lockable)) {
		return false
	}
	if strings.Contains(r.more, "cc") {
		if i.Cc < 0 || i.Cc > 15 {
			return false
		}
	} else if i.Cc != 0 {
		return false
	}
	return goodW2(i, r) && goodImm(i, r)
}

func goodW2(i xinst.Inst, r rule) bool {
	if !strings.Contains(r.more, "w2") {
		return i.W2 == 0
	}
	if i.W2 == 4 {
		return i.Op == xinst.Movsx && i.W == 8
	}
	return (i.W2 == 1 || i.W2 == 2) && i.W2 < i.W
}

func goodImm(i xinst.Inst, r rule) bool {
	number := strings.Contains(r.more, "number") && !(among(i.Op, "jmp call") && i.A.Kind != 0)
	switch {
	case i.A.Kind != 3 && i.B.Kind != 3 && !number:
		return i.Imm == 0
	case strings.Contains(r.more, "turn"):
		return i.Imm >= 0 && i.Imm < 256
	case i.Op == xinst.Mov && i.W == 8 && i.A.Kind == 1:
		return true
	}
	return signed(i.Imm, min(i.W, 4))
}

// text is an instruction's text, if it is valid.
func text(i xinst.Inst, all map[int]rule) string {
	if !good(i, all) {
		return "?"
	}
	s := fmt.Sprintf("%s.%d", names[i.Op-1], i.W)
	if among(i.Op, "movzx movsx") {
		s += fmt.Sprintf(".%d", i.W2)
	}
	if among(i.Op, "cmov set jcc") {
		s += fmt.Sprintf(".%d", i.Cc)
	}
	behind := " "
	for _, o := range []xinst.Opd{i.A, i.B} {
		if o.Kind != 0 {
			s += behind + opdText(o, i.Imm)
			behind = ", "
		}
	}
	if among(i.Op, "imuli jcc") || among(i.Op, "jmp call") && i.A.Kind == 0 {
		s += fmt.Sprintf("%s%d", behind, i.Imm)
	}
	if i.Lock {
		s = "lock " + s
	}
	if i.Rep {
		s = "rep " + s
	}
	return s
}

func opdText(o xinst.Opd, imm int64) string {
	switch o.Kind {
	case 1:
		return fmt.Sprintf("r%d", o.Reg)
	case 3:
		return fmt.Sprint(imm)
	}
	var sum []string
	if o.Base == 16 {
		sum = append(sum, "rip")
	} else if o.Base >= 0 {
		sum = append(sum, fmt.Sprintf("r%d", o.Base))
	}
	if o.Index >= 0 {
		sum = append(sum, fmt.Sprintf("r%d*%d", o.Index, o.Scale))
	}
	return "[" + strings.Join(append(sum, fmt.Sprint(o.Disp)), "+") + "]"
}

// addrs are operands in memory, valid and not.
func addrs() []xinst.Opd {
	return []xinst.Opd{
		xinst.M(0, -1, 1, 0), xinst.M(-1, -1, 1, 5), xinst.M(16, -1, 1, -8), xinst.M(3, 15, 8, math.MaxInt32),
		xinst.M(4, 3, 2, math.MinInt32), xinst.M(-1, 1, 4, 64), xinst.M(15, 0, 1, -1),
		xinst.M(17, -1, 1, 0), xinst.M(-2, -1, 1, 0), xinst.M(0, 4, 1, 0), xinst.M(0, 16, 1, 0), xinst.M(0, -2, 1, 0),
		xinst.M(0, 1, 0, 0), xinst.M(0, 1, 3, 0), xinst.M(0, 1, 16, 0), xinst.M(0, -1, 2, 0), xinst.M(0, -1, 0, 0),
		xinst.M(16, 1, 1, 0), xinst.M(0, -1, 1, math.MaxInt32+1), xinst.M(0, -1, 1, math.MinInt32-1),
		xinst.M(math.MaxInt, math.MinInt, math.MaxInt, math.MinInt64), {Kind: xinst.Mem},
		{Kind: xinst.Mem, Reg: 1, Addr: xinst.Addr{Base: 0, Index: -1, Scale: 1}},
	}
}

// opds are operands of all kinds, valid and not.
func opds() []xinst.Opd {
	return append(addrs(),
		xinst.Opd{}, xinst.I(), xinst.R(0), xinst.R(1), xinst.R(4), xinst.R(15),
		xinst.R(16), xinst.R(-1), xinst.R(math.MaxInt), xinst.R(math.MinInt),
		xinst.Opd{Kind: 4}, xinst.Opd{Kind: -1}, xinst.Opd{Kind: math.MaxInt}, xinst.Opd{Kind: math.MinInt},
		xinst.Opd{Reg: 1}, xinst.Opd{Kind: xinst.Imm, Reg: 1}, xinst.Opd{Addr: xinst.Addr{Base: -1, Index: -1, Scale: 1}},
		xinst.Opd{Kind: xinst.Imm, Addr: xinst.Addr{Disp: 1}}, xinst.Opd{Kind: xinst.Reg, Addr: xinst.Addr{Scale: 1}},
		xinst.Opd{Kind: xinst.Reg, Reg: 1, Addr: xinst.Addr{Base: -1, Index: -1, Scale: 1}},
	)
}

// edges are numbers at the ends of all ranges.
func edges() []int64 {
	return []int64{
		math.MinInt64, math.MinInt32 - 1, math.MinInt32, math.MinInt16 - 1, math.MinInt16, math.MinInt8 - 1, math.MinInt8, -1, 0, 1,
		math.MaxInt8, math.MaxInt8 + 1, 255, 256, math.MaxInt16, math.MaxInt16 + 1, math.MaxInt32, math.MaxInt32 + 1, math.MaxUint32, math.MaxInt64,
	}
}

// variants are instructions that differ from one in the fields beside the operands.
func variants(i xinst.Inst) []xinst.Inst {
	out := []xinst.Inst{i}
	add := func(change func(j *xinst.Inst)) {
		j := i
		change(&j)
		out = append(out, j)
	}
	for _, v := range edges() {
		add(func(j *xinst.Inst) { j.Imm = v })
	}
	for _, n := range []int{math.MinInt, -1, 1, 2, 3, 4, 5, 8, 14, 15, 16, math.MaxInt} {
		add(func(j *xinst.Inst) { j.W2 = n })
		add(func(j *xinst.Inst) { j.Cc = n })
		add(func(j *xinst.Inst) { j.Len = n })
	}
	add(func(j *xinst.Inst) { j.Lock = true })
	add(func(j *xinst.Inst) { j.Rep = true })
	add(func(j *xinst.Inst) { j.Lock, j.Rep = true, true })
	return out
}

// each calls a function for many instructions, valid and not.
func each(f func(i xinst.Inst)) {
	few := []xinst.Opd{{}, xinst.I(), xinst.R(0), xinst.R(1), xinst.R(15), xinst.M(0, -1, 1, 0), xinst.M(-1, 2, 8, -3), xinst.R(16), xinst.M(0, 4, 1, 0)}
	widths := []int{1, 2, 4, 8, 0, 3}
	for op := -1; op <= len(names)+2; op++ {
		for _, w := range widths {
			for _, a := range few {
				for _, b := range few {
					for _, i := range variants(xinst.Inst{Op: op, W: w, A: a, B: b}) {
						f(i)
					}
				}
			}
		}
	}
}

// valid are the valid instructions among them, and some more of each operation.
func valid() []xinst.Inst {
	all := rules()
	var out []xinst.Inst
	each(func(i xinst.Inst) {
		if good(i, all) {
			out = append(out, i)
		}
	})
	for _, a := range opds() {
		for _, b := range opds() {
			for op := range all {
				for _, j := range []xinst.Inst{{Op: op, W: 8, A: a, B: b}, {Op: op, W: 4, W2: 1, A: a, B: b}} {
					if good(j, all) {
						out = append(out, j)
					}
				}
			}
		}
	}
	return out
}

// P5.1
func TestNumbers(t *testing.T) {
	for k, n := range numbers {
		if n != k+1 {
			t.Errorf("%s is %d", names[k], n)
		}
	}
	if len(names) != len(numbers) || len(rules()) != len(names) {
		t.Error("not all operations")
	}
	for k, n := range []int{xinst.None, xinst.Reg, xinst.Mem, xinst.Imm} {
		if n != k {
			t.Errorf("kind %d is %d", k, n)
		}
	}
	if xinst.No != -1 || xinst.Rip != 16 {
		t.Error("No, Rip")
	}
}

// P5.1
func TestOperands(t *testing.T) {
	for _, n := range []int{0, 7, 15, 16, -1, math.MinInt, math.MaxInt} {
		if o := xinst.R(n); o != (xinst.Opd{Kind: xinst.Reg, Reg: n}) {
			t.Errorf("R(%d): %+v", n, o)
		}
	}
	if o := xinst.I(); o != (xinst.Opd{Kind: xinst.Imm}) {
		t.Errorf("I: %+v", o)
	}
	for _, a := range []xinst.Addr{{1, 2, 4, 8}, {-1, -1, 1, -5}, {16, -1, 1, 0}, {}, {math.MinInt, math.MaxInt, -3, math.MinInt64}} {
		if o := xinst.M(a.Base, a.Index, a.Scale, a.Disp); o != (xinst.Opd{Kind: xinst.Mem, Addr: a}) {
			t.Errorf("M(%+v): %+v", a, o)
		}
	}
}

// P5.1: an address is valid or not.
func TestAddresses(t *testing.T) {
	for base := -3; base <= 19; base++ {
		for index := -3; index <= 19; index++ {
			for scale := -1; scale <= 17; scale++ {
				for _, disp := range edges() {
					o := xinst.M(base, index, scale, disp)
					got, want := xinst.May(xinst.Inst{Op: xinst.Lea, W: 8, A: xinst.R(1), B: o}), goodAddr(o.Addr)
					if got != want {
						t.Fatalf("%+v: %v", o.Addr, got)
					}
				}
			}
		}
	}
}

// P5.1: an operand is valid or not, wherever it may be.
func TestMayOperands(t *testing.T) {
	all := rules()
	for op := range all {
		for _, w := range []int{1, 4, 8} {
			for _, a := range opds() {
				for _, b := range opds() {
					i := xinst.Inst{Op: op, W: w, A: a, B: b}
					if among(op, "movzx movsx") {
						i.W2 = 1
					}
					if got := xinst.May(i); got != good(i, all) {
						t.Fatalf("%+v: %v", i, got)
					}
				}
			}
		}
	}
}

// P5.1: every field has the values that the table gives it, and no others.
func TestMay(t *testing.T) {
	all := rules()
	each(func(i xinst.Inst) {
		if got := xinst.May(i); got != good(i, all) {
			t.Fatalf("%+v: %v", i, got)
		}
	})
	for op := range all {
		for _, w := range []int{5, 9, 16, 32, -1, -8, math.MinInt, math.MaxInt} {
			for _, a := range []xinst.Opd{{}, xinst.R(1), xinst.I()} {
				if i := (xinst.Inst{Op: op, W: w, A: a, B: xinst.R(1)}); xinst.May(i) {
					t.Errorf("%+v", i)
				}
			}
		}
	}
	for _, op := range []int{math.MinInt, -256, 256, math.MaxInt} {
		if i := (xinst.Inst{Op: op, W: 8}); xinst.May(i) || xinst.Show(i) != "?" {
			t.Errorf("%+v", i)
		}
	}
}

// P5.1: W2 by W.
func TestMaySource(t *testing.T) {
	all := rules()
	for _, op := range []int{xinst.Movzx, xinst.Movsx, xinst.Mov} {
		for w := -1; w <= 9; w++ {
			for w2 := -1; w2 <= 9; w2++ {
				i := xinst.Inst{Op: op, W: w, W2: w2, A: xinst.R(1), B: xinst.R(2)}
				if got := xinst.May(i); got != good(i, all) {
					t.Errorf("%+v: %v", i, got)
				}
			}
		}
	}
}

// P5.1: immediates by width.
func TestMayImmediates(t *testing.T) {
	all := rules()
	for op := range all {
		for _, w := range []int{1, 2, 4, 8} {
			for _, a := range []xinst.Opd{{}, xinst.R(1), xinst.M(1, -1, 1, 0), xinst.I()} {
				for _, b := range []xinst.Opd{{}, xinst.R(1), xinst.M(1, -1, 1, 0), xinst.I()} {
					for _, v := range edges() {
						i := xinst.Inst{Op: op, W: w, A: a, B: b, Imm: v}
						if got := xinst.May(i); got != good(i, all) {
							t.Fatalf("%+v: %v", i, got)
						}
					}
				}
			}
		}
	}
}

// P5.1: some that the document's words name.
func TestMayByHand(t *testing.T) {
	r, m, i := xinst.R(1), xinst.M(1, -1, 1, 0), xinst.I()
	for _, c := range []struct {
		i    xinst.Inst
		want bool
	}{
		{xinst.Inst{}, false},
		{xinst.Inst{Op: xinst.Mov, W: 8, A: r, B: i, Imm: math.MinInt64}, true},
		{xinst.Inst{Op: xinst.Mov, W: 8, A: m, B: i, Imm: math.MaxInt32 + 1}, false},
		{xinst.Inst{Op: xinst.Mov, W: 4, A: r, B: i, Imm: math.MaxInt32 + 1}, false},
		{xinst.Inst{Op: xinst.Add, W: 8, A: r, B: i, Imm: math.MaxInt32 + 1}, false},
		{xinst.Inst{Op: xinst.Add, W: 1, A: r, B: i, Imm: 128}, false},
		{xinst.Inst{Op: xinst.Add, W: 1, A: r, B: i, Imm: -128}, true},
		{xinst.Inst{Op: xinst.Shl, W: 1, A: r, B: i, Imm: 255}, true},
		{xinst.Inst{Op: xinst.Shl, W: 8, A: r, B: i, Imm: -1}, false},
		{xinst.Inst{Op: xinst.Shl, W: 8, A: r, B: xinst.R(2)}, false},
		{xinst.Inst{Op: xinst.Sar, W: 8, A: m, B: r}, true},
		{xinst.Inst{Op: xinst.Movsx, W: 8, W2: 4, A: r, B: m}, true},
		{xinst.Inst{Op: xinst.Movzx, W: 8, W2: 4, A: r, B: m}, false},
		{xinst.Inst{Op: xinst.Movsx, W: 4, W2: 4, A: r, B: m}, false},
		{xinst.Inst{Op: xinst.Movzx, W: 2, W2: 2, A: r, B: m}, false},
		{xinst.Inst{Op: xinst.Div, W: 8, A: r}, false},
		{xinst.Inst{Op: xinst.Push, W: 8, A: i, Imm: math.MinInt32}, true},
		{xinst.Inst{Op: xinst.Push, W: 8, A: i, Imm: math.MinInt32 - 1}, false},
		{xinst.Inst{Op: xinst.Call, W: 8, Imm: math.MaxInt32}, true},
		{xinst.Inst{Op: xinst.Call, W: 8, A: r, Imm: 1}, false},
		{xinst.Inst{Op: xinst.Imuli, W: 2, A: r, B: m, Imm: 32768}, false},
		{xinst.Inst{Op: xinst.Imuli, W: 8, A: r, B: m, Imm: math.MinInt32}, true},
		{xinst.Inst{Op: xinst.Xchg, W: 4, A: m, B: r, Lock: true}, true},
		{xinst.Inst{Op: xinst.Xchg, W: 4, A: r, B: r, Lock: true}, false},
		{xinst.Inst{Op: xinst.Add, W: 4, A: r, B: m, Lock: true}, false},
		{xinst.Inst{Op: xinst.Cmp, W: 4, A: m, B: r, Lock: true}, false},
		{xinst.Inst{Op: xinst.Mov, W: 4, A: m, B: r, Lock: true}, false},
		{xinst.Inst{Op: xinst.Stos, W: 2, Rep: true}, true},
		{xinst.Inst{Op: xinst.Ret, W: 8, Rep: true}, false},
		{xinst.Inst{Op: xinst.Nop, W: 8, Len: 15}, true},
		{xinst.Inst{Op: xinst.Nop, W: 8, Len: 16}, false},
		{xinst.Inst{Op: xinst.Nop, W: 8, Len: -1}, false},
	} {
		if xinst.May(c.i) != c.want {
			t.Errorf("%+v: %v", c.i, !c.want)
		}
	}
}

// P5.1: Same looks at every field but Len, valid or not.
func TestSame(t *testing.T) {
	i := xinst.Inst{Op: xinst.Add, W: 4, W2: 3, A: xinst.M(0, 1, 4, 8), B: xinst.R(2), Imm: 5, Cc: 6, Len: 7}
	for k, change := range []func(j *xinst.Inst){
		func(j *xinst.Inst) { j.Op++ }, func(j *xinst.Inst) { j.W++ }, func(j *xinst.Inst) { j.W2++ },
		func(j *xinst.Inst) { j.A.Kind++ }, func(j *xinst.Inst) { j.A.Reg++ }, func(j *xinst.Inst) { j.A.Base++ },
		func(j *xinst.Inst) { j.A.Index++ }, func(j *xinst.Inst) { j.A.Scale++ }, func(j *xinst.Inst) { j.A.Disp++ },
		func(j *xinst.Inst) { j.B.Kind++ }, func(j *xinst.Inst) { j.B.Reg++ }, func(j *xinst.Inst) { j.B.Base++ },
		func(j *xinst.Inst) { j.B.Index++ }, func(j *xinst.Inst) { j.B.Scale++ }, func(j *xinst.Inst) { j.B.Disp++ },
		func(j *xinst.Inst) { j.Imm++ }, func(j *xinst.Inst) { j.Cc++ },
		func(j *xinst.Inst) { j.Lock = true }, func(j *xinst.Inst) { j.Rep = true },
	} {
		j := i
		change(&j)
		if xinst.Same(i, j) || xinst.Same(j, i) || !xinst.Same(j, j) {
			t.Errorf("change %d", k)
		}
	}
	for _, n := range []int{0, 7, 15, -1, math.MaxInt, math.MinInt} {
		j := i
		j.Len = n
		if !xinst.Same(i, j) || !xinst.Same(j, i) {
			t.Errorf("Len %d", n)
		}
	}
}

// P5.1
func TestShow(t *testing.T) {
	all := rules()
	each(func(i xinst.Inst) {
		if got, want := xinst.Show(i), text(i, all); got != want {
			t.Fatalf("%+v: %q, not %q", i, got, want)
		}
	})
	for _, o := range addrs() {
		i := xinst.Inst{Op: xinst.Lea, W: 8, A: xinst.R(0), B: o}
		if got, want := xinst.Show(i), text(i, all); got != want {
			t.Errorf("%+v: %q, not %q", i, got, want)
		}
	}
}

// P5.1, and the document's example.
func TestShowByHand(t *testing.T) {
	for _, c := range []struct {
		i    xinst.Inst
		want string
	}{
		{xinst.Inst{Op: xinst.Add, W: 4, A: xinst.M(0, 1, 4, 8), B: xinst.R(2)}, "add.4 [r0+r1*4+8], r2"},
		{xinst.Inst{Op: xinst.Add, W: 8, A: xinst.R(0), B: xinst.R(3), Len: 3}, "add.8 r0, r3"},
		{xinst.Inst{Op: xinst.Cas, W: 4, A: xinst.M(2, -1, 1, 0), B: xinst.R(1), Lock: true}, "lock cas.4 [r2+0], r1"},
		{xinst.Inst{Op: xinst.Mov, W: 4, A: xinst.R(0), B: xinst.M(3, -1, 1, -8)}, "mov.4 r0, [r3+-8]"},
		{xinst.Inst{Op: xinst.Jmp, W: 8, Imm: -5}, "jmp.8 -5"},
		{xinst.Inst{Op: xinst.Jmp, W: 8, A: xinst.M(-1, 1, 8, 64)}, "jmp.8 [r1*8+64]"},
		{xinst.Inst{Op: xinst.Call, W: 8, A: xinst.M(16, -1, 1, 4)}, "call.8 [rip+4]"},
		{xinst.Inst{Op: xinst.Call, W: 8, A: xinst.R(15)}, "call.8 r15"},
		{xinst.Inst{Op: xinst.Push, W: 8, A: xinst.M(-1, -1, 1, -7)}, "push.8 [-7]"},
		{xinst.Inst{Op: xinst.Push, W: 8, A: xinst.I(), Imm: -7}, "push.8 -7"},
		{xinst.Inst{Op: xinst.Jcc, W: 8, Cc: 7, Imm: 2}, "jcc.8.7 2"},
		{xinst.Inst{Op: xinst.Cmov, W: 2, Cc: 15, A: xinst.R(1), B: xinst.R(4)}, "cmov.2.15 r1, r4"},
		{xinst.Inst{Op: xinst.Set, W: 1, A: xinst.R(9)}, "set.1.0 r9"},
		{xinst.Inst{Op: xinst.Movsx, W: 8, W2: 4, A: xinst.R(1), B: xinst.R(2)}, "movsx.8.4 r1, r2"},
		{xinst.Inst{Op: xinst.Imuli, W: 4, A: xinst.R(1), B: xinst.R(2), Imm: -3}, "imuli.4 r1, r2, -3"},
		{xinst.Inst{Op: xinst.Shl, W: 1, A: xinst.R(1), B: xinst.R(1)}, "shl.1 r1, r1"},
		{xinst.Inst{Op: xinst.Shl, W: 1, A: xinst.R(1), B: xinst.I(), Imm: 200}, "shl.1 r1, 200"},
		{xinst.Inst{Op: xinst.Mov, W: 8, A: xinst.R(1), B: xinst.I(), Imm: math.MinInt64}, "mov.8 r1, -9223372036854775808"},
		{xinst.Inst{Op: xinst.Movs, W: 1, Rep: true}, "rep movs.1"},
		{xinst.Inst{Op: xinst.Stos, W: 8}, "stos.8"},
		{xinst.Inst{Op: xinst.Ud, W: 8}, "ud.8"},
		{xinst.Inst{Op: xinst.Ud, W: 4}, "?"},
		{xinst.Inst{}, "?"},
	} {
		if got := xinst.Show(c.i); got != c.want {
			t.Errorf("%+v: %q, not %q", c.i, got, c.want)
		}
	}
}

// P5.2
func TestMemory(t *testing.T) {
	each(func(i xinst.Inst) {
		mem, has := xinst.Opd{}, false
		if i.B.Kind == xinst.Mem {
			mem, has = i.B, true
		}
		if i.A.Kind == xinst.Mem {
			mem, has = i.A, true
		}
		if o, ok := i.Mem(); o != mem || ok != has {
			t.Fatalf("%+v: Mem %+v %v", i, o, ok)
		}
		movTo := i.Op == xinst.Mov && i.A.Kind == xinst.Mem
		if got, want := i.Loads(), has && !among(i.Op, noLoad) && !movTo || among(i.Op, loads); got != want {
			t.Fatalf("%+v: Loads %v", i, got)
		}
		if got, want := i.Stores(), i.A.Kind == xinst.Mem && !among(i.Op, noStore) || among(i.Op, stores); got != want {
			t.Fatalf("%+v: Stores %v", i, got)
		}
	})
}

// P5.3
func TestFlow(t *testing.T) {
	each(func(i xinst.Inst) {
		if got := i.Uses(); got != among(i.Op, uses) {
			t.Fatalf("%+v: Uses %v", i, got)
		}
		if got := i.Sets(); got != among(i.Op, sets) {
			t.Fatalf("%+v: Sets %v", i, got)
		}
		if got := i.Ends(); got != (among(i.Op, ends) || among(i.Op, "movs stos") && i.Rep) {
			t.Fatalf("%+v: Ends %v", i, got)
		}
	})
}

// P5.3
func TestNextTarget(t *testing.T) {
	places := []uint64{0, 1, 4096, 1 << 47, 1<<63 - 1, 1 << 63, math.MaxUint64 - 14, math.MaxUint64}
	each(func(i xinst.Inst) {
		for _, at := range places {
			next := at + uint64(i.Len)
			if got := i.Next(at); got != next {
				t.Fatalf("%+v: Next %d", i, got)
			}
			to, ok := i.Target(at)
			if i.Op == xinst.Jcc || among(i.Op, "jmp call") && i.A.Kind == 0 {
				if to != next+uint64(i.Imm) || !ok {
					t.Fatalf("%+v: Target(%d) %d %v", i, at, to, ok)
				}
			} else if to != 0 || ok {
				t.Fatalf("%+v: Target(%d) %d %v", i, at, to, ok)
			}
		}
	})
	i := xinst.Inst{Op: xinst.Jmp, W: 8, Imm: -5, Len: 5}
	if to, ok := i.Target(2); to != 2 || !ok {
		t.Error("a jump to itself", to, ok)
	}
	i.Imm = -8
	if to, ok := i.Target(2); to != math.MaxUint64 || !ok {
		t.Error("a jump below 0", to, ok)
	}
}

// P5.4: the first of the valid instructions with a text is the same as all others with it, and no other text has the same one.
func TestTexts(t *testing.T) {
	byText := map[string]xinst.Inst{}
	byInst := map[xinst.Inst]string{}
	for _, i := range valid() {
		s := xinst.Show(i)
		if s == "?" {
			t.Fatalf("%+v has no text", i)
		}
		if j, ok := byText[s]; ok && !xinst.Same(i, j) {
			t.Fatalf("%q is %+v and %+v", s, i, j)
		}
		byText[s] = i
		i.Len = 0
		if u, ok := byInst[i]; ok && u != s {
			t.Fatalf("%+v is %q and %q", i, s, u)
		}
		byInst[i] = s
	}
	if len(byText) < 1000 {
		t.Error("too few", len(byText))
	}
}
