package xdec_test

import (
	"bytes"
	"fmt"
	"math"
	"slices"
	"strconv"
	"strings"
	"testing"

	"calque/api"
	"calque/xdec"
	"calque/xinst"
)

// dice are numbers that look as if they were thrown, always the same ones.
type dice struct{ n uint64 }

func (d *dice) below(n int) int {
	d.n = d.n*6364136223846793005 + 1442695040888963407
	return int(d.n>>33) % n
}

func (d *dice) bytes(n int) []byte {
	b := make([]byte, n)
	for k := range b {
		b[k] = byte(d.below(256))
	}
	return b
}

// The document's table, but for the opcodes from 00 to 3F: the opcodes, the operation (behind a / those by reg, . is none), A, B, the immediate, and flags.
// Operands: rm, reg, low (of the opcode), r0, r1, imm. Immediates: w as many bytes as the width, but at most four; full as many as the width; 1 one byte;
// u one unsigned byte; one the number 1; f0 that byte. Flags: b even opcodes are b; B all are; q; m; cc; w2:n; nob and onlyb without and with REX's B.
const table = `
50-57 push low - - q
58-5f pop low - - q
63-63 movsx reg rm - m w2:4
68-68 push imm - w q
6a-6a push imm - 1 q
69-69 imuli reg rm w m
6b-6b imuli reg rm 1 m
70-7f jcc - - 1 q cc
80-81 /add,or,adc,sbb,and,sub,xor,cmp rm imm w m b
83-83 /add,or,adc,sbb,and,sub,xor,cmp rm imm 1 m
84-85 test rm reg - m b
86-87 xchg rm reg - m b
88-89 mov rm reg - m b
8a-8b mov reg rm - m b
8d-8d lea reg rm - m
8f-8f /pop rm - - m q
90-90 nop - - - q nob
90-90 xchg low r0 - onlyb
91-97 xchg low r0 -
98-98 wide - - -
99-99 sign - - -
a4-a5 movs - - - b
aa-ab stos - - - b
a8-a9 test r0 imm w b
b0-b7 mov low imm w B
b8-bf mov low imm full
c0-c1 /rol,ror,.,.,shl,shr,.,sar rm imm u m b
d0-d1 /rol,ror,.,.,shl,shr,.,sar rm imm one m b
d2-d3 /rol,ror,.,.,shl,shr,.,sar rm r1 - m b
c3-c3 ret - - - q
c6-c7 /mov rm imm w m b
e8-e8 call - - w q
e9-e9 jmp - - w q
eb-eb jmp - - 1 q
f6-f7 /test rm imm w m b
f6-f7 /.,.,not,neg,mul,smul,div,sdiv rm - - m b
fe-fe /inc,dec rm - - m B
ff-ff /inc,dec rm - - m
ff-ff /.,.,call,.,jmp,.,push rm - - m q
0f05-0f05 sys - - - q
0f0b-0f0b ud - - - q
0f1f-0f1f /nop - - - m q
0f40-0f4f cmov reg rm - m cc
0f80-0f8f jcc - - w q cc
0f90-0f9f /set rm - - m B cc
0fae-0fae fence - - f0 q
0faf-0faf imul reg rm - m
0fb0-0fb1 cas rm reg - m b
0fc0-0fc1 xadd rm reg - m b
0fb6-0fb6 movzx reg rm - m w2:1
0fb7-0fb7 movzx reg rm - m w2:2
0fbe-0fbe movsx reg rm - m w2:1
0fbf-0fbf movsx reg rm - m w2:2
`

var names = strings.Fields(`add or adc sbb and sub xor cmp test mov movzx movsx lea push pop inc dec not neg mul smul div sdiv
	imul imuli rol ror shl shr sar xchg cas xadd cmov set jcc jmp call ret wide sign movs stos fence nop sys ud`)

// entry is a line of the table for one opcode.
type entry struct {
	ops            []int // by reg; or one
	byReg          bool
	a, b, imm      string
	octet, quad, m bool
	cc             bool
	w2             int
	nob, onlyb     bool
}

// op is the operation by reg, or 0.
func (e entry) op(k int) int {
	switch {
	case !e.byReg:
		return e.ops[0]
	case k < len(e.ops):
		return e.ops[k]
	}
	return 0
}

// lines are those of the whole table.
func lines() []string {
	l := strings.Split(strings.TrimSpace(table), "\n")
	for k := range 8 {
		l = append(l,
			fmt.Sprintf("%02x-%02x %s rm reg - m b", 8*k, 8*k+1, names[k]),
			fmt.Sprintf("%02x-%02x %s reg rm - m b", 8*k+2, 8*k+3, names[k]),
			fmt.Sprintf("%02x-%02x %s r0 imm w b", 8*k+4, 8*k+5, names[k]))
	}
	return l
}

// entries are the lines by opcode; one with two bytes is 0F and the second.
func entries() map[int][]entry {
	out := map[int][]entry{}
	for _, line := range lines() {
		f := strings.Fields(line)
		lo, hi, _ := strings.Cut(f[0], "-")
		from, _ := strconv.ParseInt(lo, 16, 32)
		to, _ := strconv.ParseInt(hi, 16, 32)
		for c := int(from); c <= int(to); c++ {
			e := entry{a: f[2], b: f[3], imm: f[4], byReg: f[1][0] == '/'}
			for _, name := range strings.Split(strings.TrimPrefix(f[1], "/"), ",") {
				e.ops = append(e.ops, slices.Index(names, name)+1)
			}
			for _, flag := range f[5:] {
				switch flag {
				case "b":
					e.octet = c%2 == 0
				case "B":
					e.octet = true
				case "q":
					e.quad = true
				case "m":
					e.m = true
				case "cc":
					e.cc = true
				case "nob":
					e.nob = true
				case "onlyb":
					e.onlyb = true
				default:
					e.w2, _ = strconv.Atoi(strings.TrimPrefix(flag, "w2:"))
				}
			}
			out[c] = append(out[c], e)
		}
	}
	return out
}

// parts are the pieces of an instruction's bytes. What is not needed is not used.
type parts struct {
	lock, repeat, short bool
	order               int // of the prefixes
	rex                 int // its four bits, or -1
	opcode              int
	modrm, sib          int
	disp                int32
	imm                 uint64
}

// answer is what Decode must return for all bytes that begin so: an instruction, or an error. For fewer it must return ErrRange.
type answer struct {
	bytes []byte
	inst  xinst.Inst
	err   api.Errno
}

func (p parts) bit(k int) int {
	if p.rex < 0 {
		return 0
	}
	return p.rex >> k & 1
}

// lows are the n lowest bytes of a number.
func lows(v uint64, n int) []byte {
	var b []byte
	for k := range n {
		b = append(b, byte(v>>(8*k)))
	}
	return b
}

// signed is the signed number of the n lowest bytes.
func signed(v uint64, n int) int64 {
	return int64(v<<(64-8*n)) >> (64 - 8*n)
}

// head are the bytes up to the opcode.
func (p parts) head() []byte {
	var b []byte
	if p.lock {
		b = append(b, 0xF0)
	}
	if p.repeat {
		b = append(b, 0xF3)
	}
	if p.short {
		b = append(b, 0x66)
	}
	if len(b) > 1 && p.order&1 == 1 {
		b[0], b[1] = b[1], b[0]
	}
	if len(b) > 2 {
		k := p.order >> 1 % 3
		b[2], b[k] = b[k], b[2]
	}
	if p.rex >= 0 {
		b = append(b, byte(0x40+p.rex))
	}
	if p.opcode > 255 {
		b = append(b, byte(p.opcode>>8))
	}
	return append(b, byte(p.opcode))
}

// operand is the bytes of ModRM and of what it requires, and the operand rm.
func (p parts) operand() ([]byte, xinst.Opd) {
	b := []byte{byte(p.modrm)}
	mod, m := p.modrm>>6, p.modrm&7
	if mod == 3 {
		return b, xinst.R(m + 8*p.bit(0))
	}
	base, index, scale, size := m+8*p.bit(0), -1, 1, []int{0, 1, 4}[mod]
	if m == 4 {
		b = append(b, byte(p.sib))
		base = p.sib&7 + 8*p.bit(0)
		if index = p.sib>>3&7 + 8*p.bit(1); index == 4 {
			index = -1
		} else {
			scale = []int{1, 2, 4, 8}[p.sib>>6]
		}
		if p.sib&7 == 5 && mod == 0 {
			base, size = -1, 4
		}
	}
	if m == 5 && mod == 0 {
		base, size = 16, 4
	}
	disp := int64(0)
	if size > 0 {
		disp = signed(uint64(p.disp), size)
	}
	return append(b, lows(uint64(p.disp), size)...), xinst.M(base, index, scale, disp)
}

// lacks reports whether an operand of one byte needs REX and has none.
func (p parts) lacks(o xinst.Opd) bool {
	return p.rex < 0 && o.Kind == xinst.Reg && slices.Contains([]int{4, 5, 6, 7}, o.Reg)
}

// lines are the table's lines for the opcode.
func (p parts) lines(all map[int][]entry) []entry {
	var out []entry
	for _, e := range all[p.opcode] {
		if !(e.nob && p.bit(0) == 1 || e.onlyb && p.bit(0) == 0) {
			out = append(out, e)
		}
	}
	return out
}

// number is the bytes of the immediate and its number.
func (p parts) number(kind string, w int) ([]byte, int64) {
	n := 0
	switch kind {
	case "w":
		n = min(w, 4)
	case "full":
		n = w
	case "1":
		n = 1
	case "u":
		return lows(p.imm, 1), int64(p.imm & 255)
	case "one":
		return nil, 1
	case "f0":
		return lows(p.imm, 1), 0
	default:
		return nil, 0
	}
	return lows(p.imm, n), signed(p.imm, n)
}

// answer tells what must be returned for the parts, as the document says.
func (p parts) answer(all map[int][]entry) answer {
	out := answer{bytes: p.head(), err: api.ErrSubset}
	l := p.lines(all)
	low := xinst.R(p.opcode&7 + 8*p.bit(0))
	wide := p.bit(3) == 1
	if len(l) == 0 || p.short && (wide || l[0].octet || !slices.ContainsFunc(l, func(e entry) bool { return !e.quad })) {
		return out
	}
	if l[0].octet && l[0].a == "low" && p.lacks(low) {
		return out
	}
	e, reg, rm := l[0], xinst.Opd{}, xinst.Opd{}
	if e.m {
		var b []byte
		b, rm = p.operand()
		k := p.modrm >> 3 & 7
		reg = xinst.R(k + 8*p.bit(2))
		out.bytes = append(out.bytes, b...)
		at := slices.IndexFunc(l, func(e entry) bool { return e.op(k) != 0 })
		if at < 0 {
			return out
		}
		e = l[at]
		if p.short && e.quad || (e.octet || e.w2 == 1) && p.lacks(rm) || e.octet && (e.a == "reg" || e.b == "reg") && p.lacks(reg) {
			return out
		}
	}
	i := xinst.Inst{Op: e.op(p.modrm >> 3 & 7), W: 4, W2: e.w2, Lock: p.lock, Rep: p.repeat}
	switch {
	case e.octet:
		i.W = 1
	case e.quad || wide:
		i.W = 8
	case p.short:
		i.W = 2
	}
	if e.cc {
		i.Cc = p.opcode & 15
	}
	places := map[string]xinst.Opd{"rm": rm, "reg": reg, "low": low, "r0": xinst.R(0), "r1": xinst.R(1), "imm": xinst.I()}
	i.A, i.B = places[e.a], places[e.b]
	b, imm := p.number(e.imm, i.W)
	i.Imm = imm
	out.bytes = append(out.bytes, b...)
	i.Len = len(out.bytes)
	if xinst.May(i) && (e.imm != "f0" || b[0] == 0xF0) {
		out.inst, out.err = i, api.OK
	}
	return out
}

// check compares what Decode returns for all that the bytes begin with.
func (w answer) check(t *testing.T, tail []byte) {
	t.Helper()
	b := append(slices.Clip(slices.Clone(w.bytes)), tail...)
	for n := range len(b) + 1 {
		want, err := xinst.Inst{}, api.ErrRange
		if n >= len(w.bytes) {
			want, err = w.inst, w.err
		}
		i, e := xdec.Decode(b[:n])
		if i != want || e != err {
			t.Fatalf("% x: %+v %d, not %+v %d", b[:n], i, e, want, err)
		}
	}
}

// P6.1, P6.4: every opcode, with all prefixes and REX, for all that its bytes begin with.
func TestAllOpcodes(t *testing.T) {
	d := &dice{1}
	all := entries()
	for opcode := range 512 {
		if opcode > 255 {
			opcode += 0x0F00 - 256
		}
		// Without REX these are prefixes, or REX.
		start := opcode&^15 == 0x40 || slices.Contains([]int{0x66, 0xF0, 0xF3}, opcode)
		if opcode == 0x0F {
			continue
		}
		for set := range 8 {
			for rex := -1; rex < 16; rex++ {
				if rex < 0 && start {
					continue
				}
				for range 6 {
					p := parts{
						lock: set&1 != 0, repeat: set&2 != 0, short: set&4 != 0, order: d.below(6), rex: rex, opcode: opcode,
						modrm: d.below(256), sib: d.below(256), disp: int32(d.below(1<<31) - d.below(1<<31)), imm: uint64(d.below(1<<31))<<40 ^ uint64(d.below(1<<31)),
					}
					if d.below(2) == 0 {
						p.imm = p.imm&^255 | 0xF0
					}
					p.answer(all).check(t, d.bytes(3))
				}
			}
		}
	}
}

// P6.1: every ModRM and SIB, with every REX and without one.
func TestAllModRM(t *testing.T) {
	all := entries()
	for rex := -1; rex < 16; rex++ {
		for modrm := range 256 {
			for sib := range 256 {
				if modrm&7 != 4 && sib > 3 {
					break
				}
				p := parts{rex: rex, opcode: 0x8B, modrm: modrm, sib: sib, disp: -0x7654CD - int32(sib)}
				w := p.answer(all)
				if i, e := xdec.Decode(w.bytes); i != w.inst || e != w.err {
					t.Fatalf("% x: %+v %d, not %+v %d", w.bytes, i, e, w.inst, w.err)
				}
				p.opcode, p.imm = 0x80, 0x85
				w = p.answer(all)
				if i, e := xdec.Decode(w.bytes); i != w.inst || e != w.err {
					t.Fatalf("% x: %+v %d, not %+v %d", w.bytes, i, e, w.inst, w.err)
				}
			}
		}
	}
}

// code are the bytes of a text of hexadecimal digits.
func code(s string) []byte {
	var b []byte
	for _, f := range strings.Fields(s) {
		v, err := strconv.ParseUint(f, 16, 8)
		if err != nil {
			panic(s)
		}
		b = append(b, byte(v))
	}
	return b
}

// P6.1, and the document's examples.
func TestByHand(t *testing.T) {
	for _, c := range []struct{ code, want string }{
		{"48 01 D8", "add.8 r0, r3"},
		{"F0 0F B1 0A", "lock cas.4 [r2+0], r1"},
		{"8B 44 24 08", "mov.4 r0, [r4+8]"},
		{"E9 FB FF FF FF", "jmp.8 -5"},
		{"EB FE", "jmp.8 -2"},
		{"E8 00 01 00 80", "call.8 -2147483392"},
		{"74 01", "jcc.8.4 1"},
		{"0F 8F 00 00 00 80", "jcc.8.15 -2147483648"},
		{"90", "nop.8"},
		{"48 90", "nop.8"},
		{"41 90", "xchg.4 r8, r0"},
		{"49 90", "xchg.8 r8, r0"},
		{"66 41 90", "xchg.2 r8, r0"},
		{"66 93", "xchg.2 r3, r0"},
		{"47 97", "xchg.4 r15, r0"},
		{"0F 1F 44 00 00", "nop.8"},
		{"0F 1F C7", "nop.8"},
		{"C3", "ret.8"},
		{"0F 05", "sys.8"},
		{"0F 0B", "ud.8"},
		{"0F AE F0", "fence.8"},
		{"4F 0F AE F0", "fence.8"},
		{"50", "push.8 r0"},
		{"41 57", "push.8 r15"},
		{"5C", "pop.8 r4"},
		{"8F 00", "pop.8 [r0+0]"},
		{"68 FF FF FF FF", "push.8 -1"},
		{"6A 80", "push.8 -128"},
		{"FF 30", "push.8 [r0+0]"},
		{"FF D0", "call.8 r0"},
		{"FF 24 CD 00 10 00 00", "jmp.8 [r1*8+4096]"},
		{"FF 25 FC FF FF FF", "jmp.8 [rip+-4]"},
		{"41 FF 25 FC FF FF FF", "jmp.8 [rip+-4]"},
		{"41 8B 04 25 04 00 00 00", "mov.4 r0, [4]"},
		{"41 8B 45 00", "mov.4 r0, [r13+0]"},
		{"41 8B 04 24", "mov.4 r0, [r12+0]"},
		{"42 8B 04 24", "mov.4 r0, [r4+r12*1+0]"},
		{"8B 04 E4", "mov.4 r0, [r4+0]"},
		{"8B 44 85 7F", "mov.4 r0, [r5+r0*4+127]"},
		{"8B 84 C5 00 00 00 80", "mov.4 r0, [r5+r0*8+-2147483648]"},
		{"63 C1", ""},
		{"66 63 C1", ""},
		{"48 63 C1", "movsx.8.4 r0, r1"},
		{"44 69 C1 FF FF FF 7F", "imuli.4 r8, r1, 2147483647"},
		{"66 69 C1 00 80", "imuli.2 r0, r1, -32768"},
		{"48 69 C1 00 00 00 80", "imuli.8 r0, r1, -2147483648"},
		{"48 6B C1 80", "imuli.8 r0, r1, -128"},
		{"48 05 FF FF FF FF", "add.8 r0, -1"},
		{"66 3D 00 80", "cmp.2 r0, -32768"},
		{"2C 80", "sub.1 r0, -128"},
		{"80 E4 01", ""},
		{"40 80 E4 01", "and.1 r4, 1"},
		{"80 E0 01", "and.1 r0, 1"},
		{"83 F8 FF", "cmp.4 r0, -1"},
		{"82 F8 FF", ""},
		{"B4 01", ""},
		{"40 B4 FF", "mov.1 r4, -1"},
		{"B8 00 00 00 80", "mov.4 r0, -2147483648"},
		{"48 B8 01 02 03 04 05 06 07 88", "mov.8 r0, -8644934341102468607"},
		{"66 B8 FF 7F", "mov.2 r0, 32767"},
		{"48 C7 C0 FF FF FF FF", "mov.8 r0, -1"},
		{"C6 00 FF", "mov.1 [r0+0], -1"},
		{"C7 C8 00 00 00 00", ""},
		{"C0 E0 FF", "shl.1 r0, 255"},
		{"48 C1 F8 80", "sar.8 r0, 128"},
		{"D1 E8", "shr.4 r0, 1"},
		{"66 D3 08", "ror.2 [r0+0], r1"},
		{"D3 D0", ""},
		{"F6 C0 FF", "test.1 r0, -1"},
		{"F7 C0 FF FF FF FF", "test.4 r0, -1"},
		{"66 F7 C0 FF 7F", "test.2 r0, 32767"},
		{"F7 C8 FF FF FF FF", ""},
		{"F0 F7 10", "lock not.4 [r0+0]"},
		{"F7 F1", "div.4 r1"},
		{"48 F7 F1", ""},
		{"48 F7 F9", ""},
		{"F6 FC", ""},
		{"FE 00", "inc.1 [r0+0]"},
		{"FE D0", ""},
		{"66 FF C8", "dec.2 r0"},
		{"FF D8", ""},
		{"FF E8", ""},
		{"FF F8", ""},
		{"66 FF E0", ""},
		{"66 48 FF C0", ""},
		{"66 99", "sign.2"},
		{"48 98", "wide.8"},
		{"F3 A4", "rep movs.1"},
		{"F3 48 A5", "rep movs.8"},
		{"66 F3 AB", "rep stos.2"},
		{"F3 66 AB", "rep stos.2"},
		{"66 A4", ""},
		{"F0 A4", ""},
		{"F3 90", ""},
		{"F3 C3", ""},
		{"F0 01 D8", ""},
		{"F0 01 18", "lock add.4 [r0+0], r3"},
		{"F0 66 01 18", "lock add.2 [r0+0], r3"},
		{"66 F0 01 18", "lock add.2 [r0+0], r3"},
		{"F0 F3 01 18", ""},
		{"F0 03 18", ""},
		{"F0 39 18", ""},
		{"F0 87 18", "lock xchg.4 [r0+0], r3"},
		{"A8 80", "test.1 r0, -128"},
		{"48 A9 00 00 00 80", "test.8 r0, -2147483648"},
		{"8D C0", ""},
		{"66 8D 40 01", "lea.2 r0, [r0+1]"},
		{"0F 44 C1", "cmov.4.4 r0, r1"},
		{"0F 95 C0", "set.1.5 r0"},
		{"0F 95 C4", ""},
		{"40 0F 95 C4", "set.1.5 r4"},
		{"0F 95 44 24 FF", "set.1.5 [r4+-1]"},
		{"0F 95 C8", ""},
		{"0F AF C1", "imul.4 r0, r1"},
		{"0F B0 E1", ""},
		{"40 0F B0 E1", "cas.1 r1, r4"},
		{"66 0F C1 C1", "xadd.2 r1, r0"},
		{"0F B6 C4", ""},
		{"0F B6 E0", "movzx.4.1 r4, r0"},
		{"40 0F B6 C4", "movzx.4.1 r0, r4"},
		{"0F BE C7", ""},
		{"48 0F BE C3", "movsx.8.1 r0, r3"},
		{"0F B7 C4", "movzx.4.2 r0, r4"},
		{"66 0F B7 C4", ""},
		{"66 0F BF C4", ""},
		{"66 0F BE C3", "movsx.2.1 r0, r3"},
		{"66 90", ""},
		{"66 50", ""},
		{"66 70 00", ""},
		{"66 0F 80 00 00 00 00", ""},
		{"66 0F 1F 00", ""},
		{"88 E0", ""},
		{"88 C4", ""},
		{"44 88 C4", "mov.1 r4, r8"},
		{"88 60 01", ""},
		{"8A 20", ""},
		{"40 8A 20", "mov.1 r4, [r0+0]"},
	} {
		b := code(c.code)
		i, e := xdec.Decode(append(b, 0x11, 0x22, 0x33))
		if c.want == "" {
			if e != api.ErrSubset || i != (xinst.Inst{}) {
				t.Errorf("%s: %+v %d", c.code, i, e)
			}
			continue
		}
		if e != api.OK || xinst.Show(i) != c.want || i.Len != len(b) {
			t.Errorf("%s: %s %+v %d, not %s", c.code, xinst.Show(i), i, e, c.want)
		}
	}
}

// P6.1: which error comes first.
func TestFirstError(t *testing.T) {
	for _, c := range []struct {
		code string
		want api.Errno
	}{
		{"", api.ErrRange},
		{"F0", api.ErrRange},
		{"66 F3 F0", api.ErrRange},
		{"8B 05", api.ErrRange},
		{"66 90", api.ErrSubset},
		// A second prefix of one kind, at once.
		{"F0 F0", api.ErrSubset},
		{"F3 F3", api.ErrSubset},
		{"66 66", api.ErrSubset},
		{"66 F0 66", api.ErrSubset},
		{"F0 F3 66 F0 90", api.ErrSubset},
		// What is no prefix here, nor in the table.
		{"67 90", api.ErrSubset},
		{"F2 90", api.ErrSubset},
		{"2E 90", api.ErrSubset},
		{"64", api.ErrSubset},
		// REX stands last, and once.
		{"48", api.ErrRange},
		{"48 48", api.ErrSubset},
		{"40 66 01 C0", api.ErrSubset},
		{"48 F0", api.ErrSubset},
		{"48 F3", api.ErrSubset},
		// REX with W and 66 are rejected by the opcode, and not before.
		{"66 48", api.ErrRange},
		{"66 48 0F", api.ErrRange},
		{"66 48 0F AF", api.ErrSubset},
		{"66 48 01", api.ErrSubset},
		{"66 47", api.ErrRange},
		{"66 47 01", api.ErrRange},
		// 66 with b and with q, before ModRM and the immediate are there.
		{"66 00", api.ErrSubset},
		{"66 E8", api.ErrSubset},
		{"66 8F", api.ErrSubset},
		{"66 0F", api.ErrRange},
		{"66 0F 90", api.ErrSubset},
		{"66 0F 1F", api.ErrSubset},
		{"66 0F AE", api.ErrSubset},
		// Opcodes that there are not.
		{"0F", api.ErrRange},
		{"0F 00", api.ErrSubset},
		{"0F A2", api.ErrSubset},
		{"0F C7", api.ErrSubset},
		{"06", api.ErrSubset},
		{"CC", api.ErrSubset},
		// A register in the opcode that has no byte, before the immediate.
		{"B4", api.ErrSubset},
		{"40 B4", api.ErrRange},
		{"B3", api.ErrRange},
		// A reg that there is not, when all is there that ModRM requires.
		{"FE", api.ErrRange},
		{"FE 10", api.ErrSubset},
		{"FE 50", api.ErrRange},
		{"FE 50 00", api.ErrSubset},
		{"FE 14", api.ErrRange},
		{"FE 14 24", api.ErrSubset},
		{"FE 15 00 00 00", api.ErrRange},
		{"FE 15 00 00 00 00", api.ErrSubset},
		{"FE 14 25 00 00 00", api.ErrRange},
		{"FE 14 25 00 00 00 00", api.ErrSubset},
		{"F7 08", api.ErrSubset},
		{"C1 D0", api.ErrSubset},
		{"C7 48", api.ErrRange},
		{"C7 48 00", api.ErrSubset},
		{"0F 1F 48", api.ErrRange},
		{"0F 1F 48 00", api.ErrSubset},
		// 66 with those of FF that are q.
		{"66 FF", api.ErrRange},
		{"66 FF 60", api.ErrRange},
		{"66 FF 60 00", api.ErrSubset},
		{"66 FF 10", api.ErrSubset},
		{"66 FF F0", api.ErrSubset},
		// Registers that have no byte, before the immediate, when all is there that ModRM requires.
		{"80 C4", api.ErrSubset},
		{"40 80 C4", api.ErrRange},
		{"88 60", api.ErrRange},
		{"88 60 00", api.ErrSubset},
		{"F6 C4", api.ErrSubset},
		{"C6 C7", api.ErrSubset},
		{"0F B6 C5", api.ErrSubset},
		// What is not valid is rejected at the end.
		{"F0 81 C0 00 00 00", api.ErrRange},
		{"F0 81 C0 00 00 00 00", api.ErrSubset},
		{"F3 E8 00 00 00", api.ErrRange},
		{"F3 E8 00 00 00 00", api.ErrSubset},
		{"F0 F3 68 00 00 00", api.ErrRange},
		{"63", api.ErrRange},
		{"63 40", api.ErrRange},
		{"63 40 00", api.ErrSubset},
		{"8D", api.ErrRange},
		{"8D C0", api.ErrSubset},
		// The byte that a fence ends with.
		{"0F AE", api.ErrRange},
		{"0F AE E8", api.ErrSubset},
		{"F0 0F AE", api.ErrRange},
		{"F0 0F AE F0", api.ErrSubset},
		// Immediates of which a part is missing.
		{"48 B8 00 00 00 00 00 00 00", api.ErrRange},
		{"B8 00 00 00", api.ErrRange},
		{"66 B8 00", api.ErrRange},
		{"69 C0 00 00 00", api.ErrRange},
		{"C1 E0", api.ErrRange},
		{"EB", api.ErrRange},
	} {
		if i, e := xdec.Decode(code(c.code)); e != c.want || i != (xinst.Inst{}) {
			t.Errorf("%s: %+v %d, not %d", c.code, i, e, c.want)
		}
	}
}

// P6.3, P6.4: of any bytes.
func TestAnyBytes(t *testing.T) {
	d := &dice{7}
	found := 0
	for range 300000 {
		b := d.bytes(d.below(20))
		for k := range min(len(b), d.below(4)) {
			b[k] = code("F0 F3 66 40 48 4F 0F FF F7 81")[d.below(10)]
		}
		before := slices.Clone(b)
		i, e := xdec.Decode(b)
		if !bytes.Equal(b, before) {
			t.Fatalf("% x was changed", before)
		}
		if e != api.OK {
			if i != (xinst.Inst{}) || e != api.ErrRange && e != api.ErrSubset {
				t.Fatalf("% x: %+v %d", b, i, e)
			}
			continue
		}
		found++
		if !xinst.May(i) || i.Len < 1 || i.Len > xdec.Most || i.Len > len(b) {
			t.Fatalf("% x: %+v", b, i)
		}
		for n := range i.Len {
			if _, e := xdec.Decode(b[:n]); e != api.ErrRange {
				t.Fatalf("% x: %d of %d bytes: %d", b, n, i.Len, e)
			}
		}
		other := append(slices.Clone(b[:i.Len]), d.bytes(d.below(20))...)
		if j, e := xdec.Decode(other); j != i || e != api.OK {
			t.Fatalf("% x: %+v %d, not %+v", other, j, e, i)
		}
	}
	if found < 10000 {
		t.Error("too few", found)
	}
}

// P6.2
func TestAll(t *testing.T) {
	// add, ret, a jump, and what is no instruction.
	b := code("48 01 D8 C3 EB FE F3 90 C3")
	for _, c := range []struct {
		b    []byte
		most int
		want []string
		n    int
		err  api.Errno
	}{
		{nil, 5, nil, 0, api.OK},
		{nil, 0, nil, 0, api.OK},
		{nil, -1, nil, 0, api.OK},
		{b, 0, nil, 0, api.OK},
		{b, -1, nil, 0, api.OK},
		{b, math.MinInt, nil, 0, api.OK},
		{b, 1, []string{"add.8 r0, r3"}, 3, api.OK},
		{b, 2, []string{"add.8 r0, r3", "ret.8"}, 4, api.OK},
		{b, 3, []string{"add.8 r0, r3", "ret.8", "jmp.8 -2"}, 6, api.OK},
		{b, 4, []string{"add.8 r0, r3", "ret.8", "jmp.8 -2"}, 6, api.ErrSubset},
		{b, math.MaxInt, []string{"add.8 r0, r3", "ret.8", "jmp.8 -2"}, 6, api.ErrSubset},
		{b[:6], 3, []string{"add.8 r0, r3", "ret.8", "jmp.8 -2"}, 6, api.OK},
		{b[:6], 4, []string{"add.8 r0, r3", "ret.8", "jmp.8 -2"}, 6, api.OK},
		{b[:6], math.MaxInt, []string{"add.8 r0, r3", "ret.8", "jmp.8 -2"}, 6, api.OK},
		{b[:5], 2, []string{"add.8 r0, r3", "ret.8"}, 4, api.OK},
		{b[:5], 3, []string{"add.8 r0, r3", "ret.8"}, 4, api.ErrRange},
		{b[:2], 3, nil, 0, api.ErrRange},
		{b[:2], 0, nil, 0, api.OK},
		{b[6:], 1, nil, 0, api.ErrSubset},
	} {
		l, n, e := xdec.All(c.b, c.most)
		var texts []string
		for _, i := range l {
			texts = append(texts, xinst.Show(i))
		}
		if !slices.Equal(texts, c.want) || n != c.n || e != c.err {
			t.Errorf("% x, %d: %q %d %d", c.b, c.most, texts, n, e)
		}
	}
}

// P6.2: All returns what Decode returns, one behind the other.
func TestAllOfAny(t *testing.T) {
	d := &dice{3}
	all := entries()
	for range 2000 {
		var b []byte
		for range d.below(8) {
			p := parts{rex: d.below(17) - 1, opcode: d.below(256), modrm: d.below(256), sib: d.below(256), disp: int32(d.below(1 << 30)), imm: uint64(d.below(1 << 30))}
			if w := p.answer(all); w.err == api.OK || d.below(8) == 0 {
				b = append(b, w.bytes...)
			}
		}
		b = b[:len(b)-min(len(b), d.below(3))]
		most := d.below(10)
		var want []xinst.Inst
		at, err := 0, api.OK
		for at < len(b) && len(want) < most {
			i, e := xdec.Decode(b[at:])
			if e != api.OK {
				err = e
				break
			}
			want = append(want, i)
			at += i.Len
		}
		if l, n, e := xdec.All(b, most); !slices.Equal(l, want) || n != at || e != err {
			t.Fatalf("% x, %d: %d %d %d, not %d %d %d", b, most, len(l), n, e, len(want), at, err)
		}
	}
}

// P6.2: many bytes, and results that are the caller's own.
func TestAllLong(t *testing.T) {
	b := bytes.Repeat([]byte{0x90}, 1<<16)
	l, n, e := xdec.All(b, math.MaxInt)
	if len(l) != 1<<16 || n != 1<<16 || e != api.OK {
		t.Fatal(len(l), n, e)
	}
	l[0].Op = xinst.Ud
	b[1] = 0xC3
	m, _, _ := xdec.All(b, 3)
	if m[0].Op != xinst.Nop || m[1].Op != xinst.Ret || l[1].Op != xinst.Nop {
		t.Error("shared")
	}
}

// P6.1
func TestMost(t *testing.T) {
	if xdec.Most != 15 {
		t.Error(xdec.Most)
	}
}
