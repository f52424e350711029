package label

import (
	"math"
	"math/bits"
	"strconv"
	"strings"
	"testing"

	"firebreak/api"
)

const all = math.MaxUint64

// samples are the edges, and every set of six secrets that lie at both ends and in the midst.
func samples() []uint64 {
	list := []uint64{all, all - 1, all >> 1, 0x5555555555555555, 0xaaaaaaaaaaaaaaaa, 1 << 62}
	for m := range uint64(64) {
		var a uint64
		for i, n := range []int{0, 1, 9, 31, 32, 63} {
			a |= m >> i & 1 << n
		}
		list = append(list, a)
	}
	return list
}

// members tells a label's secrets by their bits, without the package's own functions.
func members(a uint64) map[int]bool {
	set := map[int]bool{}
	for ; a != 0; a &= a - 1 {
		set[bits.TrailingZeros64(a)] = true
	}
	return set
}

func TestErrorsThatComeHere(t *testing.T) {
	if api.OK != 0 || api.ErrForm != 4 || api.ErrShort != 5 || api.ErrRest != 6 {
		t.Error("the numbers of the errors")
	}
}

// P1.1

func TestFlows(t *testing.T) {
	for _, c := range []struct {
		a, b uint64
		want bool
	}{
		{5, 13, true}, {5, 9, false}, {0, 0, true}, {0, all, true}, {all, 0, false}, {all, all, true},
		{1 << 63, 1<<63 - 1, false}, {1<<63 - 1, 1 << 63, false}, {1 << 63, all, true}, {1, all - 1, false}, {1, 2, false}, {13, 5, false},
	} {
		if got := Flows(c.a, c.b); got != c.want {
			t.Errorf("Flows(%d, %d): %v", c.a, c.b, got)
		}
	}
}

func TestSetsHoldWhatTheySay(t *testing.T) {
	for _, a := range samples() {
		in := members(a)
		if Count(a) != len(in) {
			t.Errorf("Count(%d): %d, not %d", a, Count(a), len(in))
		}
		for n := -70; n < 200; n++ {
			if Has(a, n) != in[n] {
				t.Errorf("Has(%d, %d): %v", a, n, Has(a, n))
			}
		}
		for _, b := range samples() {
			join, meet, flows := Join(a, b), Meet(a, b), true
			for n := range 64 {
				ina, inb := Has(a, n), Has(b, n)
				flows = flows && (!ina || inb)
				if Has(join, n) != (ina || inb) || Has(meet, n) != (ina && inb) {
					t.Fatalf("Join or Meet of %d, %d at the secret %d", a, b, n)
				}
			}
			if Flows(a, b) != flows {
				t.Fatalf("Flows(%d, %d): %v", a, b, !flows)
			}
		}
	}
}

func TestHasBeyondTheSecrets(t *testing.T) {
	for _, n := range []int{-1, -64, -63, 64, 65, 127, 128, 256, 1 << 32, math.MinInt, math.MaxInt} {
		if Has(all, n) {
			t.Errorf("Has(all, %d)", n)
		}
	}
	if !Has(all, 0) || !Has(all, 63) || Has(0, 0) || Has(0, 63) || !Has(1, 0) || !Has(1<<63, 63) || Has(1<<63, 0) {
		t.Error("Has at the secrets 0 and 63")
	}
}

func TestCountEdges(t *testing.T) {
	if Count(0) != 0 || Count(1) != 1 || Count(1<<63) != 1 || Count(13) != 3 || Count(all) != 64 {
		t.Error("Count")
	}
}

// P1.2

func TestPrint(t *testing.T) {
	for _, c := range []struct {
		a    uint64
		want string
	}{
		{0, "{}"}, {1, "{0}"}, {33, "{0,5}"}, {1<<63 + 1, "{0,63}"}, {1 << 63, "{63}"}, {1 << 7, "{7}"},
		{1<<9 | 1<<10, "{9,10}"}, {1 | 1<<5 | 1<<63, "{0,5,63}"},
	} {
		if got := Print(c.a); got != c.want {
			t.Errorf("Print(%d): %q, not %q", c.a, got, c.want)
		}
	}
	var words []string
	for n := range 64 {
		words = append(words, strconv.Itoa(n))
	}
	if got := Print(all); got != "{"+strings.Join(words, ",")+"}" {
		t.Errorf("Print(all): %q", got)
	}
}

// P1.3

func TestParseFaults(t *testing.T) {
	full := Print(all)
	for _, c := range []struct {
		text string
		e    api.Errno
		at   int
	}{
		{"", api.ErrShort, 0}, {"{", api.ErrShort, 1}, {"{0", api.ErrShort, 2}, {"{0,", api.ErrShort, 3},
		{"{6", api.ErrShort, 2}, {"{63", api.ErrShort, 3}, {"{62,", api.ErrShort, 4}, {"{62,6", api.ErrShort, 5},
		{"{0,5", api.ErrShort, 4}, {"{5,5", api.ErrShort, 4}, {"{59,6", api.ErrShort, 5}, {"{5,6", api.ErrShort, 4},
		{full[:len(full)-1], api.ErrShort, len(full) - 1},

		{"0", api.ErrForm, 0}, {"}", api.ErrForm, 0}, {" {}", api.ErrForm, 0}, {"x", api.ErrForm, 0}, {"\x00", api.ErrForm, 0}, {"\xff{}", api.ErrForm, 0},
		{"{,", api.ErrForm, 1}, {"{{}", api.ErrForm, 1}, {"{ }", api.ErrForm, 1}, {"{-1}", api.ErrForm, 1}, {"{+1}", api.ErrForm, 1}, {"{\x80}", api.ErrForm, 1}, {"{٣}", api.ErrForm, 1},
		{"{64}", api.ErrForm, 2}, {"{70}", api.ErrForm, 2}, {"{05}", api.ErrForm, 2}, {"{00}", api.ErrForm, 2}, {"{0 ,5}", api.ErrForm, 2}, {"{0;5}", api.ErrForm, 2}, {"{6{", api.ErrForm, 2},
		{"{100}", api.ErrForm, 3}, {"{630}", api.ErrForm, 3}, {"{63,", api.ErrForm, 3}, {"{63,}", api.ErrForm, 3}, {"{5,}", api.ErrForm, 3}, {"{5,,6}", api.ErrForm, 3}, {"{5, 6}", api.ErrForm, 3},
		{"{5,0}", api.ErrForm, 3}, {"{9,8}", api.ErrForm, 3}, {"{9,9}", api.ErrForm, 3}, {"{5,06}", api.ErrForm, 3},
		{"{5,5}", api.ErrForm, 4}, {"{5,4}", api.ErrForm, 4}, {"{6,6}", api.ErrForm, 4}, {"{5,64}", api.ErrForm, 4}, {"{5,5,", api.ErrForm, 4}, {"{19,1}", api.ErrForm, 4}, {"{63,63}", api.ErrForm, 3},
		{"{62,61}", api.ErrForm, 5}, {"{59,6}", api.ErrForm, 5}, {"{10,1}", api.ErrForm, 5}, {"{10,10}", api.ErrForm, 5},

		{"{}{}", api.ErrRest, 2}, {"{}}", api.ErrRest, 2}, {"{}\x00", api.ErrRest, 2}, {"{0}x", api.ErrRest, 3}, {"{0},", api.ErrRest, 3}, {"{63}}", api.ErrRest, 4}, {"{0,5}\n", api.ErrRest, 5},
		{full + " ", api.ErrRest, len(full)},
		{full + strings.Repeat("{}", 1<<16), api.ErrRest, len(full)}, {"{0" + strings.Repeat("0", 1<<16), api.ErrForm, 2},
	} {
		if a, e, at := Parse(c.text); a != 0 || e != c.e || at != c.at {
			t.Errorf("Parse(%.200q): %d, %d at %d, not %d at %d", c.text, a, e, at, c.e, c.at)
		}
	}
}

// read is the plain reading of whole texts alone: cut at the commas, each part a number as strconv writes it, rising.
func read(text string) (uint64, bool) {
	if len(text) < 2 || text[0] != '{' || text[len(text)-1] != '}' {
		return 0, false
	}
	inner := text[1 : len(text)-1]
	if inner == "" {
		return 0, true
	}
	a, last := uint64(0), -1
	for _, word := range strings.Split(inner, ",") {
		n, err := strconv.Atoi(word)
		if err != nil || strconv.Itoa(n) != word || n <= last || n > 63 {
			return 0, false
		}
		a, last = a|1<<n, n
	}
	return a, true
}

// begins tells whether some label's text begins so: whether one of the shortest ends makes a label's text of it.
func begins(text string) bool {
	for _, end := range []string{"", "}", "{}", "63}", "0}", "1}", "2}", "3}", "4}", "5}", "6}", "7}", "8}", "9}"} {
		if _, ok := read(text + end); ok {
			return true
		}
	}
	return false
}

// asked is what P1.3 says, word by word.
func asked(text string) (uint64, api.Errno, int) {
	if a, ok := read(text); ok {
		return a, api.OK, 0
	}
	at := len(text)
	for !begins(text[:at]) {
		at--
	}
	if _, ok := read(text[:at]); ok {
		return 0, api.ErrRest, at
	}
	if at == len(text) {
		return 0, api.ErrShort, at
	}
	return 0, api.ErrForm, at
}

func check(t *testing.T, text string) {
	t.Helper()
	a, e, at := Parse(text)
	if b, f, place := asked(text); a != b || e != f || at != place {
		t.Fatalf("Parse(%q): %d, %d at %d, not %d, %d at %d", text, a, e, at, b, f, place)
	}
	if e == api.OK && Print(a) != text {
		t.Fatalf("Parse(%q) is %d, whose text is %q", text, a, Print(a))
	}
}

// checkAll checks every text of at most that many more letters.
func checkAll(t *testing.T, text, letters string, more int) {
	check(t, text)
	if more == 0 {
		return
	}
	for i := range len(letters) {
		checkAll(t, text+letters[i:i+1], letters, more-1)
	}
}

func TestParseShortTexts(t *testing.T) {
	checkAll(t, "", "{},0123456789 x", 4)
	checkAll(t, "{", "},0356", 6)
	checkAll(t, "{5", "},0569", 5)
	checkAll(t, "{61,", "},01236", 4)
}

func TestParsePairs(t *testing.T) {
	for m := range 101 {
		for n := range 101 {
			text := "{" + strconv.Itoa(m) + "," + strconv.Itoa(n)
			check(t, text)
			check(t, text+"}")
			check(t, text+",")
			check(t, text+"}}")
		}
	}
}

func TestParseOneByteChanged(t *testing.T) {
	text := "{0,5,9,10,59,61,62,63}"
	for i := range len(text) {
		check(t, text[:i])
		check(t, text[:i]+text[i+1:])
		for b := range 256 {
			check(t, text[:i]+string([]byte{byte(b)})+text[i+1:])
		}
	}
}

// P1.4

func TestFlowsIsAnOrder(t *testing.T) {
	list := samples()
	for _, a := range list {
		if !Flows(a, a) {
			t.Errorf("%d doesn't flow to itself", a)
		}
		for _, b := range list {
			if Flows(a, b) && Flows(b, a) && a != b {
				t.Errorf("%d and %d flow to each other", a, b)
			}
			for _, c := range list {
				if Flows(a, b) && Flows(b, c) && !Flows(a, c) {
					t.Fatalf("%d flows to %d, that to %d, but not on", a, b, c)
				}
			}
		}
	}
}

func TestJoinIsLeastAndMeetGreatest(t *testing.T) {
	list := samples()
	for _, a := range list {
		for _, b := range list {
			join, meet := Join(a, b), Meet(a, b)
			if !Flows(a, join) || !Flows(b, join) || !Flows(meet, a) || !Flows(meet, b) {
				t.Fatalf("%d and %d: Join %d is not above, or Meet %d not below", a, b, join, meet)
			}
			for _, c := range list {
				if Flows(a, c) && Flows(b, c) && !Flows(join, c) {
					t.Fatalf("Join(%d, %d) is %d, not the least: %d", a, b, join, c)
				}
				if Flows(c, a) && Flows(c, b) && !Flows(c, meet) {
					t.Fatalf("Meet(%d, %d) is %d, not the greatest: %d", a, b, meet, c)
				}
			}
		}
	}
}

// P1.5

func TestThereAndBack(t *testing.T) {
	list := samples()
	for n := range 64 {
		list = append(list, 1<<n, all>>n, all<<n, all^1<<n)
	}
	// A fixed walk through labels of no pattern.
	for a, i := uint64(1), 0; i < 10000; i++ {
		a = a*6364136223846793005 + 1442695040888963407
		list = append(list, a)
	}
	for _, a := range list {
		if b, e, at := Parse(Print(a)); b != a || e != api.OK || at != 0 {
			t.Fatalf("Parse of %q: %d, %d, %d", Print(a), b, e, at)
		}
	}
}
