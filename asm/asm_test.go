package asm

import (
	"fmt"
	"math"
	"math/big"
	"regexp"
	"slices"
	"strings"
	"testing"

	"firebreak/api"
	"firebreak/code"
	"firebreak/flt"
)

// list is the document's list of the words, by Op.
var list = strings.Split("exit, set, move, add, sub, mul, div, rem, and, or, xor, shl, shr, less, equal, fadd, fsub, fmul, fdiv, fless, tofloat, toint, jump, if, send, recv, try, timer, sleep, lock, unlock, out, now, self", ", ")

// said tells, by the words, the fields that the document's table names.
func said(word string) []string {
	switch word {
	case "exit":
		return nil
	case "set", "if":
		return []string{"A", "Imm"}
	case "jump", "lock", "unlock":
		return []string{"Imm"}
	case "move", "tofloat", "toint", "recv", "try":
		return []string{"A", "B"}
	case "timer", "sleep", "out", "now", "self":
		return []string{"A"}
	}
	return []string{"A", "B", "C"}
}

const (
	most  = 1 << 52
	least = -1 << 52
)

var (
	aRegister = regexp.MustCompile(`\Ar[0-7]\z`)
	aNumber   = regexp.MustCompile(`\A(0|-?[1-9][0-9]*)\z`)
)

// numberOf reads a number's text, of an instruction with that word.
func numberOf(word, text string) (int64, bool) {
	if word == "set" && strings.HasPrefix(text, "f") {
		bits, e := flt.Parse(text[1:])
		return bits, e == api.OK && (bits < least || bits > most)
	}
	n, _ := new(big.Int).SetString(text, 10)
	if !aNumber.MatchString(text) || !n.IsInt64() {
		return 0, false
	}
	return n.Int64(), word != "set" || n.Int64() >= least && n.Int64() <= most
}

// wantedField is what P7.2 asks of a field's text, said plainly.
func wantedField(x *api.Ins, name, text string, ends int) api.Errno {
	if name != "Imm" {
		if !aRegister.MatchString(text) {
			return api.ErrReg
		}
		*map[string]*int{"A": &x.A, "B": &x.B, "C": &x.C}[name] = int(text[1] - '0')
		return api.OK
	}
	v, ok := numberOf(list[x.Op], text)
	x.Imm = v
	switch word := list[x.Op]; {
	case !ok:
		return api.ErrForm
	case (word == "jump" || word == "if") && (v < 0 || v > int64(ends)):
		return api.ErrJump
	case (word == "lock" || word == "unlock") && (v < 0 || v > 7):
		return api.ErrLock
	}
	return api.OK
}

// wantedLine is P7.2's list of one line, without its first point.
func wantedLine(line string, ends int) (x api.Ins, e api.Errno, at int) {
	body, ended := strings.CutSuffix(line, "\n")
	parts := strings.Split(body, " ")
	x.Op = slices.Index(list, parts[0])
	if x.Op < 0 {
		return x, api.ErrOp, 0
	}
	names := said(parts[0])
	place := len(parts[0])
	for i, name := range names {
		if i+1 == len(parts) {
			return x, api.ErrShort, len(body)
		}
		if e := wantedField(&x, name, parts[i+1], ends); e != api.OK {
			return x, e, place + 1
		}
		place += 1 + len(parts[i+1])
	}
	if len(parts) > len(names)+1 {
		return x, api.ErrRest, place
	}
	if !ended {
		return x, api.ErrShort, len(body)
	}
	return x, api.OK, 0
}

// wanted is P7.2 said plainly.
func wanted(text string) (l []api.Ins, e api.Errno, number, at int) {
	for i, line := range strings.SplitAfter(text, "\n") {
		if line == "" {
			break
		}
		if i == 256 {
			return nil, api.ErrMany, 257, 0
		}
		x, e, at := wantedLine(line, strings.Count(text, "\n"))
		if e != api.OK {
			return nil, e, i + 1, at
		}
		l = append(l, x)
	}
	return l, api.OK, 0, 0
}

// plain is the text of a program, as the chapter says it.
func plain(l []api.Ins) string {
	var text strings.Builder
	for _, x := range l {
		line := list[x.Op]
		for _, name := range said(line) {
			switch name {
			case "A":
				line += fmt.Sprintf(" r%d", x.A)
			case "B":
				line += fmt.Sprintf(" r%d", x.B)
			case "C":
				line += fmt.Sprintf(" r%d", x.C)
			case "Imm":
				if list[x.Op] == "set" && (x.Imm > most || x.Imm < least) {
					line += " f" + flt.Print(x.Imm)
				} else {
					line += fmt.Sprintf(" %d", x.Imm)
				}
			}
		}
		text.WriteString(line + "\n")
	}
	return text.String()
}

// lawful is an instruction of each kind that may be, its registers 5, 6, 7 and its number as great as it may be, in a program of n instructions.
func lawful(op, n int) api.Ins {
	x := api.Ins{Op: op}
	for _, name := range said(list[op]) {
		switch name {
		case "A":
			x.A = 5
		case "B":
			x.B = 6
		case "C":
			x.C = 7
		}
	}
	switch op {
	case api.OpSet:
		x.Imm = math.MaxInt64
	case api.OpJump, api.OpIf:
		x.Imm = int64(n)
	case api.OpLock, api.OpUnlock:
		x.Imm = 7
	}
	return x
}

// lawfuls is a program of n instructions, of all kinds in turn.
func lawfuls(n int) []api.Ins {
	l := make([]api.Ins, n)
	for i := range l {
		l[i] = lawful(i%api.Ops, n)
	}
	return l
}

// chance makes numbers that look like chance, the same ones each time.
type chance uint64

func (c *chance) next(n int) int {
	*c = *c*6364136223846793005 + 1442695040888963407
	return int(uint64(*c>>33) % uint64(n))
}

// bits are any, many of them near 0 or near the ends of set's whole numbers.
func (c *chance) bits() int64 {
	near := []int64{0, most, least, math.MaxInt64, math.MinInt64, 0x3ff0000000000000, -0x10000000000000}
	if c.next(2) == 0 {
		return near[c.next(len(near))] + int64(c.next(7)) - 3
	}
	return int64(c.next(1<<30))<<34 ^ int64(c.next(1<<30))<<c.next(34)
}

// program is one that may be, of n instructions.
func (c *chance) program(n int) []api.Ins {
	l := make([]api.Ins, n)
	for i := range l {
		x := lawful(c.next(api.Ops), n)
		for _, r := range []*int{&x.A, &x.B, &x.C} {
			if *r != 0 {
				*r = c.next(8)
			}
		}
		switch x.Op {
		case api.OpSet:
			x.Imm = c.bits()
		case api.OpJump, api.OpIf:
			x.Imm = int64(c.next(n + 1))
		case api.OpLock, api.OpUnlock:
			x.Imm = int64(c.next(8))
		}
		l[i] = x
	}
	return l
}

// P7.1

func printed(t *testing.T, l []api.Ins) {
	t.Helper()
	if text, e, at := Print(l); text != plain(l) || e != api.OK || at != 0 {
		t.Errorf("Print(%v): %q, %d, %d, not %q", l, text, e, at, plain(l))
	}
}

func TestPrint(t *testing.T) {
	var c chance
	for n := range api.MaxCode + 1 {
		printed(t, lawfuls(n))
		printed(t, c.program(n))
	}
	printed(t, nil)
}

func TestPrintEachLine(t *testing.T) {
	if len(list) != api.Ops {
		t.Fatalf("%d words, not %d", len(list), api.Ops)
	}
	for op := range api.Ops {
		for a := range 8 {
			for b := range 8 {
				for c := range 8 {
					x := lawful(op, 1)
					x.A, x.B, x.C = min(x.A, a), min(x.B, b), min(x.C, c)
					printed(t, []api.Ins{x})
				}
			}
		}
	}
}

func TestPrintNumbersOfSet(t *testing.T) {
	for _, c := range []struct {
		imm  int64
		want string
	}{
		{0, "0"}, {1, "1"}, {-1, "-1"}, {10, "10"}, {most, "4503599627370496"}, {least, "-4503599627370496"},
		{most - 1, "4503599627370495"}, {least + 1, "-4503599627370495"},
		{most + 1, "f2.225073858507202e-308"}, {least - 1, "f-1.7976931348623157e308"},
		{math.MinInt64, "f-0e0"}, {math.MinInt64 + 1, "f-5e-324"}, {math.MaxInt64, "fnan:7fffffffffffffff"},
		{0x7ff0000000000000, "finf"}, {0x7ff0000000000001, "fnan:7ff0000000000001"}, {0x3ff0000000000000, "f1e0"}, {-0x4010000000000000, "f-1e0"},
	} {
		l := []api.Ins{{Op: api.OpSet, A: 3, Imm: c.imm}}
		want := "set r3 " + c.want + "\n"
		if text, e, at := Print(l); text != want || e != api.OK || at != 0 {
			t.Errorf("Print(%v): %q, %d, %d, not %q", l, text, e, at, want)
		}
		if m, e, line, at := Parse(want); !slices.Equal(m, l) || e != api.OK || line != 0 || at != 0 {
			t.Errorf("Parse(%q): %v, %d, %d, %d, not %v", want, m, e, line, at, l)
		}
	}
}

func TestPrintRefuses(t *testing.T) {
	for _, c := range []struct {
		l    []api.Ins
		want api.Errno
		at   int
	}{
		{make([]api.Ins, 257), api.ErrMany, 256},
		{make([]api.Ins, 5000), api.ErrMany, 256},
		{[]api.Ins{{Op: -1}}, api.ErrOp, 0},
		{[]api.Ins{{}, {Op: api.Ops}}, api.ErrOp, 1},
		{[]api.Ins{{}, {}, {Op: api.OpSet, A: 8}}, api.ErrReg, 2},
		{[]api.Ins{{}, {}, {Op: api.OpAdd, C: -1}, {Op: -1}}, api.ErrReg, 2},
		{[]api.Ins{{}, {Op: api.OpSet, B: 1}}, api.ErrUnused, 1},
		{[]api.Ins{{}, {Op: api.OpJump, Imm: 3}}, api.ErrJump, 1},
		{[]api.Ins{{}, {Op: api.OpIf, Imm: -1}}, api.ErrJump, 1},
		{[]api.Ins{{Op: api.OpLock, Imm: 7}, {Op: api.OpLock, Imm: 8}}, api.ErrLock, 1},
		{[]api.Ins{{Op: api.OpUnlock, Imm: -1}}, api.ErrLock, 0},
	} {
		if text, e, at := Print(c.l); text != "" || e != c.want || at != c.at {
			t.Errorf("Print of %d: %q, %d, %d, not %d, %d", len(c.l), text, e, at, c.want, c.at)
		}
	}
}

// Programs with a field that is anything: the error is that of code.May.
func TestPrintTellsTheErrorOfMay(t *testing.T) {
	var c chance
	for range 5000 {
		l := c.program(1 + c.next(5))
		x := &l[c.next(len(l))]
		v := c.next(12) - 2
		switch c.next(5) {
		case 0:
			x.Op = c.next(40) - 3
		case 1:
			x.A = v
		case 2:
			x.B = v
		case 3:
			x.C = v
		case 4:
			x.Imm = int64(v)
		}
		want, wantAt := code.May(l, 8)
		text, e, at := Print(l)
		if e != want || at != wantAt || (text == "") != (want != api.OK) {
			t.Fatalf("Print(%v): %q, %d, %d, not %d, %d", l, text, e, at, want, wantAt)
		}
	}
}

// P7.2

func parsed(t *testing.T, text string) {
	t.Helper()
	l, want, wantLine, wantAt := wanted(text)
	if m, e, line, at := Parse(text); !slices.Equal(m, l) || e != want || line != wantLine || at != wantAt {
		t.Fatalf("Parse(%.200q): %v, %d, %d, %d, not %v, %d, %d, %d", text, m, e, line, at, l, want, wantLine, wantAt)
	}
}

func TestParse(t *testing.T) {
	var c chance
	for n := range 300 {
		parsed(t, plain(lawfuls(n)))
		parsed(t, plain(c.program(n)))
	}
}

// The line of an instruction of each kind, in the midst of three: each of its bytes is changed into each other one, taken out, or has each one put ahead of it.
func TestParseChanged(t *testing.T) {
	for op := range api.Ops {
		line := plain([]api.Ins{lawful(op, 3)})
		for at := range len(line) {
			for v := range 256 {
				one := string([]byte{byte(v)})
				parsed(t, "exit\n"+line[:at]+one+line[at+1:]+"jump 2\n")
				parsed(t, "exit\n"+line[:at]+one+line[at:]+"jump 2\n")
			}
			parsed(t, "exit\n"+line[:at]+line[at+1:]+"jump 2\n")
		}
	}
}

// Each text is cut at each place: a last line has no end, or there is no more of it.
func TestParseCut(t *testing.T) {
	text := plain(lawfuls(api.Ops))
	for n := range len(text) + 1 {
		parsed(t, text[:n])
	}
	for op := range api.Ops {
		line := plain([]api.Ins{lawful(op, 1)})
		for n := range len(line) {
			parsed(t, line[:n])
			parsed(t, line[:n]+"\n")
			parsed(t, line[:n]+" \n")
			parsed(t, line[:n]+" ")
			parsed(t, line[n:])
		}
	}
}

func wrong(t *testing.T, text string, want api.Errno, wantLine, wantAt int) {
	t.Helper()
	if l, e, line, at := Parse(text); len(l) != 0 || e != want || line != wantLine || at != wantAt {
		t.Errorf("Parse(%.200q): %d instructions, %d, %d, %d, not %d, %d, %d", text, len(l), e, line, at, want, wantLine, wantAt)
	}
}

func TestParseWords(t *testing.T) {
	for op, word := range list {
		rest := strings.TrimPrefix(plain([]api.Ins{lawful(op, 1)}), word)
		if l, e, line, at := Parse(word + rest); e != api.OK || line != 0 || at != 0 || !slices.Equal(l, []api.Ins{lawful(op, 1)}) {
			t.Errorf("Parse(%q): %v, %d, %d, %d", word+rest, l, e, line, at)
		}
		for _, other := range []string{strings.ToUpper(word), strings.ToUpper(word[:1]) + word[1:], word + "s", word + "\t", word + "\r", word + "\x00", " " + word, word[1:] + word[:1], word + word} {
			wrong(t, other+rest, api.ErrOp, 1, 0)
			wrong(t, "exit\n"+other+rest, api.ErrOp, 2, 0)
			wrong(t, other, api.ErrOp, 1, 0)
		}
	}
	for _, other := range []string{"\n", "\n\n", " \n", " ", "  exit\n", "\texit\n", "0\n", "r0\n", "nop\n", "set,r0,1\n", "jump1\n", "exit\r\n", "\x00", "ex\u0131t\n", "\xff\n"} {
		wrong(t, other, api.ErrOp, 1, 0)
		wrong(t, "exit\nexit\n"+other+"exit\n", api.ErrOp, 3, 0)
	}
}

// Of each instruction's line: fields too few, with a blank behind and without one; one too many; a blank too many.
func TestParseFieldsAndBlanks(t *testing.T) {
	for op, word := range list {
		names := said(word)
		parts := strings.Split(strings.TrimSuffix(plain([]api.Ins{lawful(op, 1)}), "\n"), " ")
		for n := range names {
			short := strings.Join(parts[:n+1], " ")
			none := api.ErrReg
			if names[n] == "Imm" {
				none = api.ErrForm
			}
			wrong(t, "exit\n"+short+"\n", api.ErrShort, 2, len(short))
			wrong(t, "exit\n"+short, api.ErrShort, 2, len(short))
			wrong(t, "exit\n"+short+" \n", none, 2, len(short)+1)
			wrong(t, "exit\n"+short+" ", none, 2, len(short)+1)
			wrong(t, "exit\n"+short+"  "+strings.Join(parts[n+1:], " ")+"\n", none, 2, len(short)+1)
		}
		whole := strings.Join(parts, " ")
		wrong(t, "exit\n"+whole, api.ErrShort, 2, len(whole))
		for _, more := range []string{" ", "  ", " r0", " 0", " x y"} {
			wrong(t, "exit\n"+whole+more+"\n", api.ErrRest, 2, len(whole))
			wrong(t, "exit\n"+whole+more, api.ErrRest, 2, len(whole))
		}
	}
}

func TestParseRegisters(t *testing.T) {
	for _, text := range []string{"", "r", "r8", "r9", "r-1", "r00", "r07", "r10", "R0", "0", "7", "rr", "r 0", "x0", "r0r", "r0,", "r0\t", "\tr0", "r/", "r:", "r\x00", "r\u0661", "0r", "r0x0", "r+1"} {
		wrong(t, "out "+text+"\n", api.ErrReg, 1, 4)
		wrong(t, "exit\nmove r0 "+text+"\n", api.ErrReg, 2, 8)
		wrong(t, "exit\nsend r0 r7 "+text+"\n", api.ErrReg, 2, 11)
		wrong(t, "if "+text+" 9\n", api.ErrReg, 1, 3)
		wrong(t, "send r0 "+text+" r9", api.ErrReg, 1, 8)
	}
}

// Texts that are no number of 64 bits, or one that is written otherwise than strconv does.
func TestParseNumbers(t *testing.T) {
	for _, text := range []string{
		"", "-", "+", "+1", "-0", "+0", "00", "01", "-01", "007", "1.", "1.0", "1e0", "0x1", "0b1", "0o1", "1_0", "1,000", "\t1", "1\t", "1\r", "1f", "r1", "one", "\u0661", "--1", "1-", "inf", "nan",
		"9223372036854775808", "-9223372036854775809", "18446744073709551616", "99999999999999999999", "-99999999999999999999", strings.Repeat("9", 400), strings.Repeat("0", 400), "F1e0",
	} {
		wrong(t, "set r7 "+text+"\n", api.ErrForm, 1, 7)
		wrong(t, "jump "+text+"\n", api.ErrForm, 1, 5)
		wrong(t, "if r1 "+text+"\n", api.ErrForm, 1, 6)
		wrong(t, "lock "+text+"\n", api.ErrForm, 1, 5)
		wrong(t, "unlock "+text+"\n", api.ErrForm, 1, 7)
	}
}

// Of set a number is whole just from -2^52 to 2^52; all others have their float's text, in its one form.
func TestParseNumbersOfSet(t *testing.T) {
	for _, v := range []int64{0, 1, -1, most, least, most - 1, least + 1} {
		parsed(t, fmt.Sprintf("set r0 %d\n", v))
		wrong(t, "set r0 f"+flt.Print(v)+"\n", api.ErrForm, 1, 7)
	}
	for _, v := range []int64{most + 1, least - 1, math.MaxInt64, math.MinInt64, math.MaxInt64 - 1, math.MinInt64 + 1, 0x3ff0000000000000} {
		wrong(t, fmt.Sprintf("set r0 %d\n", v), api.ErrForm, 1, 7)
		if l, e, _, _ := Parse("set r0 f" + flt.Print(v) + "\n"); e != api.OK || !slices.Equal(l, []api.Ins{{Op: api.OpSet, Imm: v}}) {
			t.Errorf("Parse of the float of %d: %v, %d", v, l, e)
		}
	}
	for _, text := range []string{
		"f", "ff1e0", "f1", "f1.0e0", "f01e0", "f1e00", "f1e+0", "f+1e0", "f10e0", "f0.1e1", "f1E0", "f1.5", "f.5e0", "f1.e0", "f1e", "f 1e0", "f1e0f", "fInf", "finfinity", "f+inf", "fnan", "fNaN", "f-", "f1_0e0", "f0x1p0",
		"f-inf", "f0e0", "f5e-324", "f2.2250738585072014e-308", "fnan:ffffffffffffffff", "fnan:fff0000000000001", "fnan:fff0000000000000", "fnan:7ff0000000000000", "fnan:7FF8000000000000", "fnan:7ff800000000000", "fnan:07ff8000000000000", "f1e309", "f1e-400", "f1.00000000000000000001e0", "f" + strings.Repeat("9", 400), "-f1e0",
	} {
		wrong(t, "set r0 "+text+"\n", api.ErrForm, 1, 7)
	}
	for _, text := range []string{"f1e0", "finf", "f-0e0", "fnan:7ff8000000000000", "f0e0", "f5e-324"} {
		for _, line := range []string{"jump ", "if r0 ", "lock ", "unlock "} {
			wrong(t, line+text+"\n", api.ErrForm, 1, len(line))
		}
	}
}

// A jump is held against how many line ends there are, be they more than may be, and whatever stands in the lines.
func TestParseJumps(t *testing.T) {
	for _, n := range []int{1, 2, 3, 255, 256} {
		for _, at := range []int{0, n / 2, n - 1} {
			for _, line := range []string{"jump ", "if r3 "} {
				put := func(v any) string {
					return strings.Repeat("exit\n", at) + fmt.Sprint(line, v) + "\n" + strings.Repeat("exit\n", n-at-1)
				}
				parsed(t, put(0))
				parsed(t, put(n))
				if l, e, _, _ := Parse(put(n)); e != api.OK || l[at].Imm != int64(n) {
					t.Errorf("a jump behind the last of %d: %d", n, e)
				}
				for _, v := range []any{n + 1, -1, -n, int64(math.MaxInt64), int64(math.MinInt64), 1 << 32} {
					wrong(t, put(v), api.ErrJump, at+1, len(line))
				}
			}
		}
	}
	wrong(t, "jump 1", api.ErrJump, 1, 5)
	wrong(t, "jump 0", api.ErrShort, 1, 6)
	wrong(t, "exit\njump 2", api.ErrJump, 2, 5)
	wrong(t, "exit\njump 1", api.ErrShort, 2, 6)
	wrong(t, "jump 3\n\n\n", api.ErrOp, 2, 0)
	wrong(t, "jump 4\n\n\n", api.ErrJump, 1, 5)
	wrong(t, "jump 300\n"+strings.Repeat("exit\n", 299), api.ErrMany, 257, 0)
	wrong(t, "jump 301\n"+strings.Repeat("exit\n", 299), api.ErrJump, 1, 5)
	wrong(t, "jump 2 1\n", api.ErrJump, 1, 5)
	wrong(t, "if r0 2 1\n", api.ErrJump, 1, 6)
}

func TestParseLocks(t *testing.T) {
	for _, line := range []string{"lock ", "unlock "} {
		for v := range 8 {
			parsed(t, fmt.Sprint(line, v, "\n"))
		}
		for _, v := range []any{8, 9, -1, 256, int64(math.MaxInt64), int64(math.MinInt64)} {
			wrong(t, fmt.Sprint("exit\n", line, v, "\n"), api.ErrLock, 2, len(line))
			wrong(t, fmt.Sprint("exit\n", line, v, " 1"), api.ErrLock, 2, len(line))
		}
	}
}

func TestParseMany(t *testing.T) {
	full := strings.Repeat("exit\n", 256)
	if l, e, line, at := Parse(full); len(l) != 256 || e != api.OK || line != 0 || at != 0 {
		t.Errorf("256 lines: %d, %d, %d, %d", len(l), e, line, at)
	}
	for _, more := range []string{"exit\n", "exit", "\n", " ", "x", "set r8\n", "exit\nexit\n", full} {
		wrong(t, full+more, api.ErrMany, 257, 0)
	}
	wrong(t, strings.Repeat("exit\n", 255)+"exit", api.ErrShort, 256, 4)
	wrong(t, strings.Repeat("exit\n", 255)+"\nexit\n", api.ErrOp, 256, 0)
	wrong(t, strings.Repeat("\n", 1000), api.ErrOp, 1, 0)
}

// Each line has several faults, and lines behind it others: the first one of the first one is told.
func TestParseTellsTheFirst(t *testing.T) {
	for _, c := range []struct {
		line string
		want api.Errno
		at   int
	}{
		{"nop r8 9 9", api.ErrOp, 0},
		{"set r8 01 9", api.ErrReg, 4}, {"set r1 01 9", api.ErrForm, 7}, {"set r1 1 9", api.ErrRest, 8},
		{"add r8 r8 r8 r8", api.ErrReg, 4}, {"add r7 r8 r8 r8", api.ErrReg, 7}, {"add r7 r7 r8 r8", api.ErrReg, 10}, {"add r7 r7 r7 r8", api.ErrRest, 12},
		{"if r8 x 9", api.ErrReg, 3}, {"if r8", api.ErrReg, 3}, {"if r7 x 9", api.ErrForm, 6}, {"if r7 99 9", api.ErrJump, 6}, {"if r7 0 9", api.ErrRest, 7},
		{"lock 08 1", api.ErrForm, 5}, {"lock 8 1", api.ErrLock, 5}, {"lock 7 1", api.ErrRest, 6},
		{"exit x", api.ErrRest, 4}, {"exit  ", api.ErrRest, 4},
	} {
		wrong(t, c.line, c.want, 1, c.at)
		wrong(t, c.line+"\nset r9 1\n", c.want, 1, c.at)
		wrong(t, "now r1\nexit\n"+c.line+"\n\n", c.want, 3, c.at)
	}
}

// Texts out of pieces of lines.
func TestParseAnything(t *testing.T) {
	var c chance
	pieces := append([]string{" ", " ", " ", "\n", "\n", "\n", "r0", "r7", "r8", "0", "1", "-1", "7", "8", "f1e0", "f-0e0", "4503599627370497", "x", "\xff"}, list...)
	for range 50000 {
		text := ""
		for range c.next(16) {
			text += pieces[c.next(len(pieces))]
		}
		parsed(t, text)
	}
}

// Lines as long as one likes.
func TestParseLong(t *testing.T) {
	long := strings.Repeat("1", 1<<20)
	wrong(t, long, api.ErrOp, 1, 0)
	wrong(t, "set r0 "+long+"\n", api.ErrForm, 1, 7)
	wrong(t, "set r0 f"+long+"\n", api.ErrForm, 1, 7)
	wrong(t, "set r0 f1."+long+"e0\n", api.ErrForm, 1, 7)
	wrong(t, "set "+long, api.ErrReg, 1, 4)
	wrong(t, "exit "+long, api.ErrRest, 1, 4)
	wrong(t, "jump "+long, api.ErrForm, 1, 5)
	wrong(t, strings.Repeat(" ", 1<<20), api.ErrOp, 1, 0)
}

// P7.3

func TestRoundTrip(t *testing.T) {
	var c chance
	for range 5 {
		for n := range api.MaxCode + 1 {
			l := c.program(n)
			text, _, _ := Print(l)
			if m, e, line, at := Parse(text); e != api.OK || line != 0 || at != 0 || !slices.Equal(m, l) {
				t.Fatalf("Parse(Print(%v)): %v, %d, %d, %d", l, m, e, line, at)
			}
		}
	}
}

// Texts of all kinds: what is taken is told again as it was.
func TestTakenIsTold(t *testing.T) {
	var c chance
	taken := 0
	for range 30000 {
		b := []byte(plain(c.program(1 + c.next(4))))
		for range c.next(3) {
			b[c.next(len(b))] = "0123456789 rfe.-\nx"[c.next(18)]
		}
		text := string(b)
		parsed(t, text)
		l, e, _, _ := Parse(text)
		if e != api.OK {
			continue
		}
		taken++
		if told, e, at := Print(l); told != text || e != api.OK || at != 0 {
			t.Fatalf("Print(Parse(%q)): %q, %d, %d", text, told, e, at)
		}
	}
	if taken < 5000 || taken > 25000 {
		t.Errorf("%d of 30000 were taken", taken)
	}
}

// What the bytes of a program are and its text tell the same.
func TestTextAndBytes(t *testing.T) {
	var c chance
	for n := range api.MaxCode + 1 {
		l := c.program(n)
		text, _, _ := Print(l)
		m, _, _, _ := Parse(text)
		b, e, _ := code.Encode(m)
		back, _, _ := code.Decode(b)
		if told, _, _ := Print(back); e != api.OK || told != text {
			t.Fatalf("%v: %q, not %q", l, told, text)
		}
	}
}

// P7.4: R3, R4

func TestMemory(t *testing.T) {
	l := make([]api.Ins, 3, 9)
	copy(l[:9], lawfuls(9))
	l[2] = api.Ins{Op: api.OpJump, Imm: 3}
	was := slices.Clone(l[:9])
	text, _, _ := Print(l)
	if !slices.Equal(l[:9], was) {
		t.Errorf("the program was changed: %v", l[:9])
	}
	clear(l[:9])
	if text != plain(was[:3]) {
		t.Errorf("the text hangs on the program: %q", text)
	}
}

func TestAnswersAreApart(t *testing.T) {
	text := plain(lawfuls(9))
	a, _, _, _ := Parse(text)
	b, _, _, _ := Parse(text)
	clear(a[:cap(a)])
	if !slices.Equal(b, lawfuls(9)) {
		t.Errorf("two answers of Parse share memory: %v", b)
	}
	Parse("set r8 1\n")
	Print([]api.Ins{{Op: -1}})
	if again, e, line, at := Parse(text); !slices.Equal(again, lawfuls(9)) || e != api.OK || line != 0 || at != 0 {
		t.Errorf("Parse, asked again: %v, %d, %d, %d", again, e, line, at)
	}
	if told, e, at := Print(lawfuls(9)); told != text || e != api.OK || at != 0 {
		t.Errorf("Print, asked again: %q, %d, %d", told, e, at)
	}
}

// The chapter's examples

func ends(text string) string { return strings.ReplaceAll(text, ";", "\n") }

func TestExamplesOfTexts(t *testing.T) {
	for _, c := range []struct {
		text string
		l    []api.Ins
	}{
		{"set r0 5;if r0 0;send r1 r2 r3;exit;", []api.Ins{{Op: api.OpSet, Imm: 5}, {Op: api.OpIf}, {Op: api.OpSend, A: 1, B: 2, C: 3}, {Op: api.OpExit}}},
		{"", nil},
		{"set r1 f1.5e0;set r1 f-0e0;set r1 fnan:7ff8000000000001;set r1 4503599627370496;", []api.Ins{{Op: api.OpSet, A: 1, Imm: 0x3ff8000000000000}, {Op: api.OpSet, A: 1, Imm: math.MinInt64}, {Op: api.OpSet, A: 1, Imm: 0x7ff8000000000001}, {Op: api.OpSet, A: 1, Imm: 1 << 52}}},
		{"jump 1;", []api.Ins{{Op: api.OpJump, Imm: 1}}},
		{"lock 7;", []api.Ins{{Op: api.OpLock, Imm: 7}}},
	} {
		if l, e, line, at := Parse(ends(c.text)); !slices.Equal(l, c.l) || e != api.OK || line != 0 || at != 0 {
			t.Errorf("Parse(%q): %v, %d, %d, %d, not %v", c.text, l, e, line, at, c.l)
		}
		if text, e, at := Print(c.l); text != ends(c.text) || e != api.OK || at != 0 {
			t.Errorf("Print(%v): %q, %d, %d, not %q", c.l, text, e, at, c.text)
		}
	}
}

func TestExamplesOfErrors(t *testing.T) {
	for _, c := range []struct {
		text     string
		want     api.Errno
		line, at int
	}{
		{"exit", api.ErrShort, 1, 4}, {";", api.ErrOp, 1, 0}, {"Exit;", api.ErrOp, 1, 0}, {"exits;", api.ErrOp, 1, 0}, {"exit ;", api.ErrRest, 1, 4}, {"exit r0;", api.ErrRest, 1, 4},
		{"exit;set;", api.ErrShort, 2, 3}, {"exit;set ;", api.ErrReg, 2, 4}, {"exit;set r0;", api.ErrShort, 2, 6}, {"set r8 1;", api.ErrReg, 1, 4}, {"set r0  1;", api.ErrForm, 1, 7}, {"set r0 1 ;", api.ErrRest, 1, 8},
		{"set r0 01;", api.ErrForm, 1, 7}, {"set r0 4503599627370497;", api.ErrForm, 1, 7}, {"set r0 f5e-324;", api.ErrForm, 1, 7}, {"set r0 f1.0e0;", api.ErrForm, 1, 7}, {"set r0 f;", api.ErrForm, 1, 7},
		{"jump 2;", api.ErrJump, 1, 5}, {"jump 2;exit", api.ErrJump, 1, 5}, {"jump -1;", api.ErrJump, 1, 5}, {"unlock 8;", api.ErrLock, 1, 7},
	} {
		wrong(t, ends(c.text), c.want, c.line, c.at)
	}
}
