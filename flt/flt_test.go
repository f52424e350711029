package flt

import (
	"fmt"
	"math"
	"math/big"
	"strconv"
	"strings"
	"testing"

	"firebreak/api"
)

const (
	sign     = math.MinInt64
	infinity = 0x7ff << 52
	quiet    = 0x7ff8000000000000
	greatest = infinity - 1
	normal   = 1 << 52
	one      = 0x3ff << 52
	half     = 0x3fe << 52
	most     = math.MaxInt64
	least    = math.MinInt64
)

// random makes n numbers of 64 bits, always the same ones.
func random(n int) []int64 {
	x := uint64(5)
	var list []int64
	for range n {
		x = x*6364136223846793005 + 1442695040888963407
		list = append(list, int64(x^x>>29))
	}
	return list
}

// nans are NaNs of either sign: the one told, those beside it, the first and the last ones.
func nans() []int64 {
	var list []int64
	for _, x := range []int64{quiet, quiet + 1, quiet - 1, infinity + 1, infinity + 77, most} {
		list = append(list, x, x|sign)
	}
	return list
}

// edges are the bits of zeros, infinities, NaNs, the least and the greatest floats, and numbers around powers of two, of either sign.
func edges() []int64 {
	list := nans()
	for _, x := range []int64{0, 1, 2, 3, normal - 1, normal, normal + 1, greatest - 1, greatest, infinity, half, half - 1, half + 1, one - 1, one, one + 1, one + 2} {
		list = append(list, x, x|sign)
	}
	for _, x := range []float64{1.5, 2, 3, 10, 0.1, 0.2, 1e23, 1 << 52, 1<<53 - 1, 1 << 53, 1 << 62, 1 << 63, 1 << 64, 0x1p970, 0x1p969, 0x1p-53, 0x1p-54, 0x1p-1022} {
		bits := int64(math.Float64bits(x))
		list = append(list, bits-1, bits, bits+1, bits|sign)
	}
	return list
}

// floats are the edges and others between them.
func floats() []int64 { return append(edges(), random(40)...) }

// wholes are whole numbers: around 0, around each power of two either way, and some in between.
func wholes() []int64 {
	list := []int64{0, most, most - 1, most - 511, most - 512, most - 513, least, least + 1, least + 512, least + 513}
	for n := range 63 {
		p := int64(1) << n
		for d := int64(-3); d <= 3; d++ {
			list = append(list, p+d, -p+d)
		}
		for k := range n {
			list = append(list, p+1<<k, -p-1<<k, p+3<<k, p|p>>1|1<<k)
		}
	}
	return append(list, random(500)...)
}

func isNaN(bits int64) bool { return bits&most > infinity }

func isInf(bits int64) bool { return bits&most == infinity }

func isZero(bits int64) bool { return bits&most == 0 }

// exact is the number that a float is: neither a NaN nor infinite.
func exact(bits int64) *big.Rat {
	exponent, fraction := bits>>52&0x7ff, bits&(normal-1)
	if exponent == 0 {
		exponent = 1
	} else {
		fraction |= normal
	}
	if bits < 0 {
		fraction = -fraction
	}
	x, p := big.NewInt(fraction), int(exponent)-1075
	if p >= 0 {
		return new(big.Rat).SetInt(x.Lsh(x, uint(p)))
	}
	return new(big.Rat).SetFrac(x, new(big.Int).Lsh(big.NewInt(1), uint(-p)))
}

// rounded is the bits of a number, whose zero has the sign s.
func rounded(x *big.Rat, s int64) int64 {
	f, _ := x.Float64()
	if f == 0 {
		return s
	}
	return int64(math.Float64bits(f))
}

// sum is what IEEE 754 says of a sum.
func sum(b, c int64) int64 {
	switch {
	case isNaN(b) || isNaN(c) || isInf(b) && isInf(c) && b != c:
		return quiet
	case isInf(b):
		return b
	case isInf(c):
		return c
	case isZero(b) && isZero(c):
		return b & c
	}
	return rounded(new(big.Rat).Add(exact(b), exact(c)), 0)
}

func difference(b, c int64) int64 {
	if isNaN(c) {
		return quiet
	}
	return sum(b, c^sign)
}

func product(b, c int64) int64 {
	s := (b ^ c) & sign
	switch {
	case isNaN(b) || isNaN(c) || isInf(b) && isZero(c) || isZero(b) && isInf(c):
		return quiet
	case isInf(b) || isInf(c):
		return s | infinity
	}
	x := new(big.Rat).Mul(exact(b), exact(c))
	return rounded(x, s)
}

func quotient(b, c int64) int64 {
	s := (b ^ c) & sign
	switch {
	case isNaN(b) || isNaN(c) || isInf(b) && isInf(c) || isZero(b) && isZero(c):
		return quiet
	case isInf(b) || isZero(c):
		return s | infinity
	case isInf(c):
		return s
	}
	x := new(big.Rat).Quo(exact(b), exact(c))
	return rounded(x, s)
}

// below tells whether the float of b is below that of c.
func below(b, c int64) int64 {
	switch {
	case isNaN(b) || isNaN(c) || b == c:
		return 0
	case isInf(b):
		return number(b < 0)
	case isInf(c):
		return number(c > 0)
	}
	return number(exact(b).Cmp(exact(c)) < 0)
}

// towardsZero is the whole number of a float, the nearest end beyond them.
func towardsZero(bits int64) int64 {
	switch {
	case isNaN(bits):
		return 0
	case isInf(bits) && bits > 0:
		return most
	case isInf(bits):
		return least
	}
	x := exact(bits)
	n := new(big.Int).Quo(x.Num(), x.Denom())
	switch {
	case n.IsInt64():
		return n.Int64()
	case n.Sign() > 0:
		return most
	}
	return least
}

func check(t *testing.T, op int, b, c, want int64) {
	t.Helper()
	if got, e := Do(op, b, c); got != want || e != api.OK {
		t.Errorf("Do(%d, %x, %x): %x, %d, not %x", op, uint64(b), uint64(c), uint64(got), e, uint64(want))
	}
}

func do(t *testing.T, op int, b, c int64) int64 {
	t.Helper()
	v, e := Do(op, b, c)
	if e != api.OK {
		t.Fatalf("Do(%d, %x, %x): the error %d", op, uint64(b), uint64(c), e)
	}
	return v
}

func parsed(t *testing.T, text string) int64 {
	t.Helper()
	bits, e := Parse(text)
	if e != api.OK {
		t.Fatalf("Parse(%q): the error %d", text, e)
	}
	return bits
}

// each calls f for all pairs of a list's elements.
func each(list []int64, f func(b, c int64)) {
	for _, b := range list {
		for _, c := range list {
			f(b, c)
		}
	}
}

// P5.1

func TestSumsAndDifferences(t *testing.T) {
	each(floats(), func(b, c int64) {
		check(t, api.OpFAdd, b, c, sum(b, c))
		check(t, api.OpFSub, b, c, difference(b, c))
	})
}

func TestProductsAndQuotients(t *testing.T) {
	each(floats(), func(b, c int64) {
		check(t, api.OpFMul, b, c, product(b, c))
		check(t, api.OpFDiv, b, c, quotient(b, c))
	})
}

func TestHalfWayGoesToTheEvenOne(t *testing.T) {
	tiny, third := parsed(t, "1.1102230246251565e-16"), parsed(t, "1.5e-323")
	for _, x := range []struct {
		op         int
		b, c, want int64
	}{
		// 2^-53 is half of what is between 1 and the next float.
		{api.OpFAdd, one, tiny, one}, {api.OpFAdd, one, tiny + 1, one + 1}, {api.OpFAdd, one + 1, tiny, one + 2}, {api.OpFAdd, one + 1, tiny - 1, one + 1},
		{api.OpFSub, sign | one, tiny, sign | one}, {api.OpFSub, sign | (one + 1), tiny, sign | (one + 2)},
		// The halves of the least floats.
		{api.OpFMul, 1, half, 0}, {api.OpFMul, 1, half + 1, 1}, {api.OpFMul, third, half, 2}, {api.OpFMul, sign | 1, half, sign}, {api.OpFMul, 5, half, 2}, {api.OpFDiv, 7, one + 1<<52, 4},
		// 2^970 is half of what is between the greatest float and 2^1024.
		{api.OpFAdd, greatest, int64(math.Float64bits(0x1p970)), infinity}, {api.OpFAdd, greatest, int64(math.Float64bits(0x1p970)) - 1, greatest},
		{api.OpFAdd, greatest - 1, int64(math.Float64bits(0x1p970)), greatest - 1}, {api.OpFSub, sign | greatest, int64(math.Float64bits(0x1p970)), sign | infinity},
	} {
		check(t, x.op, x.b, x.c, x.want)
	}
}

func TestBeyondTheGreatest(t *testing.T) {
	two := parsed(t, "2e0")
	check(t, api.OpFMul, greatest, two, infinity)
	check(t, api.OpFMul, greatest|sign, two, infinity|sign)
	check(t, api.OpFAdd, greatest, greatest, infinity)
	check(t, api.OpFSub, greatest|sign, greatest, infinity|sign)
	check(t, api.OpFDiv, greatest, half, infinity)
	check(t, api.OpFDiv, one, 1, infinity)
	check(t, api.OpFMul, 1, 1, 0)
	check(t, api.OpFMul, 1, sign|1, sign)
	check(t, api.OpFDiv, 1, greatest|sign, sign)
}

func TestZerosHaveASign(t *testing.T) {
	for _, x := range [][4]int64{
		{api.OpFAdd, 0, 0, 0}, {api.OpFAdd, 0, sign, 0}, {api.OpFAdd, sign, 0, 0}, {api.OpFAdd, sign, sign, sign},
		{api.OpFSub, 0, 0, 0}, {api.OpFSub, 0, sign, 0}, {api.OpFSub, sign, 0, sign}, {api.OpFSub, sign, sign, 0},
		{api.OpFAdd, one, sign | one, 0}, {api.OpFSub, sign | one, sign | one, 0},
		{api.OpFMul, sign, one, sign}, {api.OpFMul, sign, sign | one, 0}, {api.OpFDiv, sign, one, sign}, {api.OpFDiv, 0, sign | infinity, sign},
		{api.OpFDiv, one, 0, infinity}, {api.OpFDiv, one, sign, sign | infinity}, {api.OpFDiv, sign | one, sign, infinity},
	} {
		check(t, int(x[0]), x[1], x[2], x[3])
	}
}

func TestEveryNaNIsTheNaN(t *testing.T) {
	for _, op := range []int{api.OpFAdd, api.OpFSub, api.OpFMul, api.OpFDiv} {
		for _, n := range nans() {
			for _, c := range floats() {
				check(t, op, n, c, quiet)
				check(t, op, c, n, quiet)
			}
		}
	}
	for _, s := range []int64{0, sign} {
		check(t, api.OpFAdd, infinity|s, infinity|s^sign, quiet)
		check(t, api.OpFSub, infinity|s, infinity|s, quiet)
		check(t, api.OpFMul, infinity|s, s, quiet)
		check(t, api.OpFMul, s, infinity, quiet)
		check(t, api.OpFDiv, infinity|s, infinity, quiet)
		check(t, api.OpFDiv, s, 0, quiet)
	}
}

func TestLess(t *testing.T) {
	each(floats(), func(b, c int64) { check(t, api.OpFLess, b, c, below(b, c)) })
	check(t, api.OpFLess, sign, 0, 0)
	check(t, api.OpFLess, 0, sign, 0)
	check(t, api.OpFLess, sign|1, 0, 1)
	check(t, api.OpFLess, sign, 1, 1)
}

func TestToFloat(t *testing.T) {
	for _, n := range wholes() {
		want := rounded(new(big.Rat).SetInt64(n), 0)
		for _, c := range []int64{0, 1, quiet, least} {
			check(t, api.OpToFloat, n, c, want)
		}
	}
	for n, want := range map[int64]float64{0: 0, 1<<53 + 1: 1 << 53, 1<<53 + 3: 1<<53 + 4, most: 1 << 63, most - 511: 1 << 63, most - 512: 1<<63 - 1024, least: -1 << 63, least + 512: -1 << 63, least + 513: 1024 - 1<<63} {
		check(t, api.OpToFloat, n, 5, int64(math.Float64bits(want)))
	}
}

func TestToInt(t *testing.T) {
	list := append(edges(), random(2000)...)
	// Of all exponents around the whole numbers: no fraction, some, all of it.
	for e := int64(1020); e < 1090; e++ {
		for _, f := range []int64{0, 1, 1 << 51, normal - 1, 0x8000000000001, 0xffffffff} {
			list = append(list, e<<52|f, e<<52|f|sign)
		}
	}
	for _, b := range list {
		want := towardsZero(b)
		for _, c := range []int64{0, 1, quiet, least} {
			check(t, api.OpToInt, b, c, want)
		}
	}
}

func TestToIntBeyondTheEnds(t *testing.T) {
	top := int64(math.Float64bits(1 << 63))
	for b, want := range map[int64]int64{
		top: most, top + 1: most, top - 1: 1<<63 - 1024, infinity: most, greatest: most,
		sign | top: least, sign | (top + 1): least, sign | (top - 1): 1024 - 1<<63, sign | infinity: least, sign | greatest: least,
		0: 0, sign: 0, 1: 0, sign | 1: 0, one - 1: 0, sign | (one - 1): 0, one: 1, sign | one: -1,
	} {
		check(t, api.OpToInt, b, 0, want)
	}
	for _, n := range nans() {
		check(t, api.OpToInt, n, 0, 0)
	}
}

func TestOtherInstructions(t *testing.T) {
	list := []int{-1, -2, -api.OpFAdd, -api.OpToInt, api.Ops + 1, math.MinInt, math.MinInt + 1, math.MaxInt - 1, math.MaxInt}
	// Numbers whose lowest bits are an instruction's of this layer.
	for _, far := range []int{1 << 8, 1 << 16, 1 << 32, 1 << 40, math.MinInt} {
		list = append(list, far+api.OpFAdd, far+api.OpFDiv, far+api.OpToInt)
	}
	for op := range api.Ops + 1 {
		if op < api.OpFAdd || op > api.OpToInt {
			list = append(list, op)
		}
	}
	for _, op := range list {
		for _, x := range [][2]int64{{one, one}, {0, 0}, {one, 0}, {infinity, quiet}, {most, least}} {
			if v, e := Do(op, x[0], x[1]); v != 0 || e != api.ErrOp {
				t.Errorf("Do(%d, %x, %x): %x, %d", op, x[0], x[1], v, e)
			}
		}
	}
}

func TestWhichInstructionsThereAre(t *testing.T) {
	n := 0
	for op := -5; op < api.Ops+5; op++ {
		if _, e := Do(op, one, half); e == api.OK {
			n++
		}
	}
	if n != 7 {
		t.Errorf("%d instructions, not 7", n)
	}
}

// P5.2

// span is what rounds to a float above 0, and the float itself, all by one divisor.
type span struct {
	low, float, high, by *big.Int
	ends                 bool // whether low and high round to it too
}

// spanOf tells the span of bits by 10^p.
func spanOf(bits int64, p int) span {
	exponent, m := int(bits>>52), bits&(normal-1)
	low := int64(2)
	if exponent > 1 && m == 0 {
		// The float below is only half as far away.
		low = 1
	}
	if exponent == 0 {
		exponent = 1
	} else {
		m |= normal
	}
	s := span{big.NewInt(4*m - low), big.NewInt(4 * m), big.NewInt(4*m + 2), big.NewInt(1), m%2 == 0}
	s.times(new(big.Int).Exp(big.NewInt(2), big.NewInt(int64(max(exponent-1077, 0))), nil), big.NewInt(1))
	s.times(big.NewInt(1), new(big.Int).Exp(big.NewInt(2), big.NewInt(int64(max(1077-exponent, 0))), nil))
	s.times(new(big.Int).Exp(big.NewInt(10), big.NewInt(int64(max(-p, 0))), nil), new(big.Int).Exp(big.NewInt(10), big.NewInt(int64(max(p, 0))), nil))
	return s
}

func (s span) times(n, by *big.Int) {
	s.low.Mul(s.low, n)
	s.float.Mul(s.float, n)
	s.high.Mul(s.high, n)
	s.by.Mul(s.by, by)
}

func (s span) holds(x *big.Int) bool {
	a, b := x.Cmp(s.low), x.Cmp(s.high)
	return a > 0 && b < 0 || s.ends && (a == 0 || b == 0)
}

// wordOf tells the text of the bits of a float above 0, by the document's words alone.
func wordOf(bits int64) string {
	const many = 18
	first := int(math.Floor(math.Log2(math.Float64frombits(uint64(bits))) * math.Log10(2)))
	s := spanOf(bits, first-many+1)
	for length(s) != many {
		first += length(s) - many
		s = spanOf(bits, first-many+1)
	}
	for n := 1; n <= many; n++ {
		unit := new(big.Int).Exp(big.NewInt(10), big.NewInt(int64(many-n)), nil)
		if d := nearest(s, unit.Mul(unit, s.by)); d != nil {
			return written(d.String(), first-n+1)
		}
	}
	return "none"
}

func length(s span) int { return len(new(big.Int).Quo(s.float, s.by).String()) }

// nearest tells which multiple of unit in the span is nearest to the float; nil, if none is in it.
func nearest(s span, unit *big.Int) *big.Int {
	d := new(big.Int).Quo(s.float, unit)
	up := new(big.Int).Add(d, big.NewInt(1))
	x, y := new(big.Int).Mul(d, unit), new(big.Int).Mul(up, unit)
	switch {
	case !s.holds(x) && !s.holds(y):
		return nil
	case !s.holds(x):
		return up
	case !s.holds(y):
		return d
	}
	far := new(big.Int).Sub(s.float, x).Cmp(y.Sub(y, s.float))
	if far > 0 || far == 0 && d.Bit(0) == 1 {
		return up
	}
	return d
}

// written is the text of the digits with the exponent of the last one.
func written(digits string, p int) string {
	p += len(digits) - 1
	digits = strings.TrimRight(digits, "0")
	if len(digits) > 1 {
		digits = digits[:1] + "." + digits[1:]
	}
	return fmt.Sprintf("%se%d", digits, p)
}

func checkPrint(t *testing.T, bits int64, want string) {
	t.Helper()
	if got := Print(bits); got != want {
		t.Errorf("Print(%x): %q, not %q", uint64(bits), got, want)
	}
}

// checkDigits holds a float above 0, and its opposite, against the document's words.
func checkDigits(t *testing.T, bits int64) {
	t.Helper()
	want := wordOf(bits)
	checkPrint(t, bits, want)
	checkPrint(t, bits|sign, "-"+want)
}

func TestDigitsAroundPowersOfTwo(t *testing.T) {
	for e := int64(1); e < 2047; e++ {
		for d := int64(-1); d <= 1; d++ {
			checkDigits(t, e<<52+d)
		}
	}
	for n := range 52 {
		checkDigits(t, 1<<n)
		checkDigits(t, 1<<n|1)
		checkDigits(t, 2<<n-1)
	}
	checkDigits(t, greatest)
}

func TestDigitsAroundPowersOfTen(t *testing.T) {
	for p := -323; p <= 308; p++ {
		x, err := strconv.ParseFloat("1e"+strconv.Itoa(p), 64)
		if err != nil {
			t.Fatal(err)
		}
		bits := int64(math.Float64bits(x))
		for d := max(bits-2, 1); d <= bits+2; d++ {
			checkDigits(t, d)
		}
	}
}

func TestDigitsOfOthers(t *testing.T) {
	for _, bits := range random(3000) {
		if bits &= most; bits > 0 && bits < infinity {
			checkDigits(t, bits)
		}
	}
	for bits := int64(1); bits < 300; bits++ {
		checkDigits(t, bits)
	}
}

// Where floats are quarters or eighths apart the decimal numbers of as many digits may be as near on both sides.
func TestDigitsThatAreAsNear(t *testing.T) {
	for n := 44; n < 60; n++ {
		bits := int64(math.Float64bits(float64(int64(1) << n)))
		for d := range int64(64) {
			checkDigits(t, bits+d)
		}
	}
	for bits, want := range map[int64]string{
		0x4310000000000001: "1.1258999068426242e15", 0x4310000000000003: "1.1258999068426248e15",
		0x44b52d02c7e14af6: "1e23", 0x44b52d02c7e14af7: "1.0000000000000001e23", 0x44b52d02c7e14af5: "9.999999999999997e22",
	} {
		checkPrint(t, bits, want)
	}
}

func TestTextsOfPlainNumbers(t *testing.T) {
	for x, want := range map[float64]string{
		1: "1e0", -1: "-1e0", 10: "1e1", -100: "-1e2", 0.5: "5e-1", -0.25: "-2.5e-1", 12345: "1.2345e4", 1e10: "1e10", 1e100: "1e100", 1e-10: "1e-10", 1e-100: "1e-100", 120: "1.2e2", 102: "1.02e2",
		1e9: "1e9", 9: "9e0", 1e-9: "1e-9", 123456789012345680: "1.2345678901234568e17", math.MaxFloat64: "1.7976931348623157e308", -math.MaxFloat64: "-1.7976931348623157e308", math.SmallestNonzeroFloat64: "5e-324", 0x1p-1022: "2.2250738585072014e-308",
	} {
		checkPrint(t, int64(math.Float64bits(x)), want)
	}
}

func TestTextsOfZerosAndInfinities(t *testing.T) {
	checkPrint(t, 0, "0e0")
	checkPrint(t, sign, "-0e0")
	checkPrint(t, infinity, "inf")
	checkPrint(t, sign|infinity, "-inf")
}

func TestTextsOfNaNs(t *testing.T) {
	for _, x := range random(1000) {
		bits := x | infinity
		checkPrint(t, bits, fmt.Sprintf("nan:%016x", uint64(bits)))
	}
	for _, bits := range nans() {
		checkPrint(t, bits, fmt.Sprintf("nan:%016x", uint64(bits)))
	}
	checkPrint(t, -1, "nan:ffffffffffffffff")
	checkPrint(t, infinity+1, "nan:7ff0000000000001")
	checkPrint(t, sign|infinity+1, "nan:fff0000000000001")
}

func TestParse(t *testing.T) {
	for text, want := range map[string]int64{
		"0e0": 0, "-0e0": sign, "1e0": one, "-1e0": sign | one, "5e-1": half, "5e-324": 1, "-5e-324": sign | 1, "1e-323": 2, "2.225073858507201e-308": normal - 1, "2.2250738585072014e-308": normal,
		"1.7976931348623157e308": greatest, "-1.7976931348623157e308": sign | greatest, "inf": infinity, "-inf": sign | infinity,
		"nan:7ff8000000000000": quiet, "nan:7ff0000000000001": infinity + 1, "nan:ffffffffffffffff": -1, "nan:7fffffffffffffff": most, "1.0000000000000002e0": one + 1, "9.999999999999999e-1": one - 1,
	} {
		if got, e := Parse(text); got != want || e != api.OK {
			t.Errorf("Parse(%q): %x, %d, not %x", text, uint64(got), e, uint64(want))
		}
	}
}

func refuse(t *testing.T, text string) {
	t.Helper()
	if v, e := Parse(text); v != 0 || e != api.ErrForm {
		t.Errorf("Parse(%q): %x, %d, not the error %d", text, uint64(v), e, api.ErrForm)
	}
}

func TestParseRefusesOtherForms(t *testing.T) {
	for _, text := range []string{
		"", " ", "-", "+", ".", "e", "e0", "-e0", ".e0", "1", "-1", "0", "-0", "1.5", "1e", "1e-", "1.e0", ".5e0", "-.5e0", "1.5e", "1 e0", "1e 0", " 1e0", "1e0 ", "1e0\n", "1e0\x00", "\x001e0",
		"1.0e0", "1.50e0", "10e0", "15e-1", "01e0", "00e0", "0.1e1", "0.0e0", "1e00", "1e01", "1e-0", "1e-00", "1e-01", "1e+0", "1e+1", "+1e0", "--1e0", "+0e0", "0e1", "0e-0", "0e-1", "-0e1", "1e1.0", "1e0e0", "1.2.3e0", "1,5e0",
		"1E0", "1.5E0", "1d0", "1_0e0", "1_5e0", "1e1_0", "0x1p0", "0x1p-2", "0X1P0", "0x1e0", "1e0f", "0b1e0", "1p0", "١e0", "１e0", "1\xffe0",
	} {
		refuse(t, text)
	}
}

func TestParseRefusesOtherDigits(t *testing.T) {
	for _, text := range []string{
		"3.33333333333333333e-1", "3.3333333333333331e-1", "3.333333333333333333e-1", "1.00000000000000001e0", "1.0000000000000001e0", "1.1258999068426243e15", "1.1258999068426247e15", "1.12589990684262425e15", "9.999999999999999e22 ", "1.00000000000000000e23", "9.9999999999999991611392e22",
		"4e-324", "6e-324", "3e-324", "4.9e-324", "2e-324", "2.4703282292062327e-324", "1e-324", "1e-400", "-1e-400", "1e309", "-1e309", "1.7976931348623159e308", "1.7976931348623158e308", "2e308", "1e400", "1e99999", "1e-99999", "1e99999999999999999999", "1e-99999999999999999999",
		"2.2250738585072011e-308", "2.2250738585072012e-308", "9.007199254740993e15", "9223372036854775807e0", "9.223372036854775807e18", "9.223372036854775808e18",
	} {
		refuse(t, text)
	}
	refuse(t, "1."+strings.Repeat("0", 100000)+"e0")
	refuse(t, "1e"+strings.Repeat("0", 100000))
	refuse(t, strings.Repeat("9", 100000))
}

func TestParseRefusesOtherNamesAndNaNs(t *testing.T) {
	for _, text := range []string{
		"Inf", "INF", "+inf", "infinity", "-infinity", "Infinity", "in", "inf ", "--inf", "-Inf", "infe0", "inf:7ff0000000000000",
		"nan", "NaN", "NAN", "-nan", "+nan", "nan:", "nan:0", "nan:7ff8", "nan:7ff0000000000000", "nan:fff0000000000000", "nan:0000000000000000", "nan:3ff0000000000000", "nan:8000000000000000", "nan:7feffffffffffff1",
		"nan:7FF8000000000000", "nan:7ff800000000000A", "NaN:7ff8000000000000", "nan:07ff8000000000000", "nan:7ff80000000000000", "nan:17ff8000000000000", "nan:7ff800000000000", "nan:ffffffffffffffff0", "nan:7ff800000000000g",
		"nan: 7ff8000000000000", "nan:7ff8000000000000 ", " nan:7ff8000000000000", "nan:+7ff8000000000000", "nan:-7ff8000000000000", "-nan:7ff8000000000000", "nan:0x7ff8000000000000", "nan:7ff8_0000_0000_0000", "nan:nan:7ff8000000000000", "nan7ff8000000000000",
	} {
		refuse(t, text)
	}
}

// P5.3

// many are bits of all kinds.
func many() []int64 {
	list := append(floats(), random(20000)...)
	for e := int64(0); e < 2048; e++ {
		for _, f := range []int64{0, 1, 2, 1 << 51, normal - 1} {
			list = append(list, e<<52|f, e<<52|f|sign)
		}
	}
	return list
}

func TestParseOfPrintIsTheBits(t *testing.T) {
	for _, bits := range many() {
		if got, e := Parse(Print(bits)); got != bits || e != api.OK {
			t.Errorf("Parse of Print(%x), %q: %x, %d", uint64(bits), Print(bits), uint64(got), e)
		}
	}
}

func TestNoTwoHaveOneText(t *testing.T) {
	whose := map[string]int64{}
	for _, bits := range many() {
		text := Print(bits)
		if other, is := whose[text]; is && other != bits {
			t.Errorf("%x and %x: %q", uint64(bits), uint64(other), text)
		}
		whose[text] = bits
	}
}

// changed are texts that differ from one at one place, by a byte put in, taken out or changed.
func changed(text string) []string {
	var list []string
	for i := range len(text) + 1 {
		for _, b := range []byte("0123456789.eE+-_xpinfa: \x00\xff") {
			list = append(list, text[:i]+string([]byte{b})+text[i:])
			if i < len(text) {
				list = append(list, text[:i]+string([]byte{b})+text[i+1:])
			}
		}
		if i < len(text) {
			list = append(list, text[:i]+text[i+1:])
		}
	}
	return list
}

func TestWhatParseTakesPrintTells(t *testing.T) {
	taken, refused := 0, 0
	for _, bits := range edges() {
		for _, text := range changed(Print(bits)) {
			got, e := Parse(text)
			switch {
			case e == api.OK && Print(got) == text:
				taken++
			case e == api.ErrForm && got == 0:
				refused++
			default:
				t.Errorf("Parse(%q): %x, %d, whose text is %q", text, uint64(got), e, Print(got))
			}
		}
	}
	if taken < 1000 || refused < 1000 {
		t.Errorf("%d taken, %d refused", taken, refused)
	}
}

// P5.4

func TestOrderOfSumsAndProducts(t *testing.T) {
	each(floats(), func(b, c int64) {
		for _, op := range []int{api.OpFAdd, api.OpFMul} {
			if v, w := do(t, op, b, c), do(t, op, c, b); v != w {
				t.Errorf("Do(%d) of %x and %x: %x, the other way %x", op, uint64(b), uint64(c), uint64(v), uint64(w))
			}
		}
	})
}

func TestToIntTakesToFloatBack(t *testing.T) {
	const end = 1 << 53
	n := 0
	for _, b := range append(wholes(), end, -end, end-1, 1-end) {
		if b > end || b < -end {
			b >>= 11
		}
		n++
		if got := do(t, api.OpToInt, do(t, api.OpToFloat, b, 0), 0); got != b {
			t.Errorf("%d and back: %d", b, got)
		}
	}
	if n < 1000 {
		t.Errorf("only %d numbers", n)
	}
}

func TestSubIsAddWithTheSignTurned(t *testing.T) {
	each(floats(), func(b, c int64) {
		if isNaN(c) {
			return
		}
		if v, w := do(t, api.OpFSub, b, c), do(t, api.OpFAdd, b, c^sign); v != w {
			t.Errorf("%x and %x: %x, not %x", uint64(b), uint64(c), uint64(v), uint64(w))
		}
	})
}

// R4

func TestTheSameAgain(t *testing.T) {
	list := edges()
	ask := func() []string {
		var told []string
		for op := -1; op <= api.Ops; op++ {
			for i, b := range list {
				v, e := Do(op, b, list[len(list)-1-i])
				told = append(told, Print(v), e.Error())
			}
		}
		return told
	}
	first, second := ask(), ask()
	for i := range first {
		if first[i] != second[i] {
			t.Fatalf("the answer %d: %s, then %s", i, first[i], second[i])
		}
	}
}

// The chapter's examples

func TestExamples(t *testing.T) {
	for _, x := range []struct {
		op         int
		b, c, want string
	}{
		{api.OpFAdd, "1.5e0", "2.5e-1", "1.75e0"}, {api.OpFDiv, "1e0", "0e0", "inf"}, {api.OpFDiv, "0e0", "0e0", "nan:7ff8000000000000"},
		{api.OpFDiv, "-1e0", "0e0", "-inf"}, {api.OpFSub, "inf", "inf", "nan:7ff8000000000000"},
		{api.OpFAdd, "nan:fff8000000000001", "1e0", "nan:7ff8000000000000"}, {api.OpFMul, "1.7976931348623157e308", "2e0", "inf"},
	} {
		if got := Print(do(t, x.op, parsed(t, x.b), parsed(t, x.c))); got != x.want {
			t.Errorf("Do(%d) of %s and %s: %s, not %s", x.op, x.b, x.c, got, x.want)
		}
	}
	check(t, api.OpFLess, parsed(t, "-0e0"), parsed(t, "0e0"), 0)
	check(t, api.OpFLess, parsed(t, "-inf"), parsed(t, "1e0"), 1)
	check(t, api.OpFLess, quiet, parsed(t, "1e0"), 0)
	for n, want := range map[int64]string{3: "3e0", most: "9.223372036854776e18", 1<<53 + 1: "9.007199254740992e15"} {
		check(t, api.OpToFloat, n, 0, parsed(t, want))
	}
	for text, want := range map[string]int64{"-2.9e0": -2, "inf": most, "nan:7ff8000000000000": 0, "-1e300": least, "9.223372036854776e18": most} {
		check(t, api.OpToInt, parsed(t, text), 0, want)
	}
	for bits, want := range map[int64]string{0: "0e0", 1: "5e-324", sign: "-0e0", 0x7ff0000000000001: "nan:7ff0000000000001"} {
		checkPrint(t, bits, want)
	}
	for _, text := range []string{"1", "1.0e0", "1e00", "10e0", "+1e0", "nan", "nan:7ff0000000000000", "0.1e1"} {
		refuse(t, text)
	}
}
