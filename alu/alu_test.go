package alu

import (
	"math"
	"math/big"
	"testing"

	"firebreak/api"
)

const (
	most  = math.MaxInt64
	least = math.MinInt64
)

// numbers are the edges: around 0, around each power of two either way, and some in between.
func numbers() []int64 {
	list := []int64{0, most, most - 1, least, least + 1, 10, -10, 77, -77, 1000000007, -1000000007}
	for n := range 63 {
		p := int64(1) << n
		list = append(list, p, -p, p-1, 1-p, p+1, -p-1)
	}
	x := uint64(1)
	for range 40 {
		x = x*6364136223846793005 + 1442695040888963407
		list = append(list, int64(x), int64(x)>>23, int64(x)>>41)
	}
	return list
}

// shifts are how far is shifted: all that shift some bits, and beyond both edges.
func shifts() []int64 {
	list := []int64{-1, -2, -63, -64, -65, -1 << 32, least, least + 1, 127, 128, 255, 256, 1 << 32, 1<<32 + 1, 1 << 62, most - 1, most}
	for n := range int64(70) {
		list = append(list, n)
	}
	return list
}

func do(t *testing.T, op int, b, c int64) int64 {
	t.Helper()
	v, e := Do(op, b, c)
	if e != api.OK {
		t.Fatalf("Do(%d, %d, %d): the error %d", op, b, c, e)
	}
	return v
}

// each calls f for all pairs of the numbers.
func each(f func(b, c int64)) {
	list := numbers()
	for _, b := range list {
		for _, c := range list {
			f(b, c)
		}
	}
}

// eachShift calls f for all numbers and all shifts.
func eachShift(f func(b, n int64)) {
	for _, b := range numbers() {
		for _, n := range shifts() {
			f(b, n)
		}
	}
}

// whole is 2^64.
func whole() *big.Int { return new(big.Int).Lsh(big.NewInt(1), 64) }

// raised is a number as 64 bits: one below 0 has 2^64 added.
func raised(v int64) *big.Int {
	x := big.NewInt(v)
	if v < 0 {
		x.Add(x, whole())
	}
	return x
}

// wrapped adds 2^64 or takes it away till the number fits.
func wrapped(x *big.Int) int64 {
	y := new(big.Int).Mod(x, whole())
	if y.Cmp(big.NewInt(most)) > 0 {
		y.Sub(y, whole())
	}
	return y.Int64()
}

// quotient is b by c as the document has it, ahead of wrapping.
func quotient(b, c int64) *big.Int {
	if c == 0 {
		return new(big.Int)
	}
	return new(big.Int).Quo(big.NewInt(b), big.NewInt(c))
}

// bitwise puts a number together of what f tells of each pair of bits.
func bitwise(b, c int64, f func(x, y uint) bool) int64 {
	x, y, z := raised(b), raised(c), new(big.Int)
	for i := range 64 {
		if f(x.Bit(i), y.Bit(i)) {
			z.SetBit(z, i, 1)
		}
	}
	return wrapped(z)
}

// P4.1

func check(t *testing.T, op int, b, c, want int64) {
	t.Helper()
	if got, e := Do(op, b, c); got != want || e != api.OK {
		t.Errorf("Do(%d, %d, %d): %d, %d, not %d", op, b, c, got, e, want)
	}
}

func TestSumsAndProductsWrap(t *testing.T) {
	each(func(b, c int64) {
		x, y, z := big.NewInt(b), big.NewInt(c), new(big.Int)
		check(t, api.OpAdd, b, c, wrapped(z.Add(x, y)))
		check(t, api.OpSub, b, c, wrapped(z.Sub(x, y)))
		check(t, api.OpMul, b, c, wrapped(z.Mul(x, y)))
	})
}

func TestQuotientsAndRests(t *testing.T) {
	each(func(b, c int64) {
		q := quotient(b, c)
		check(t, api.OpDiv, b, c, wrapped(q))
		rest := new(big.Int).Mul(q, big.NewInt(c))
		check(t, api.OpRem, b, c, wrapped(rest.Sub(big.NewInt(b), rest)))
	})
}

func TestByNothingAndByLessOne(t *testing.T) {
	for _, b := range numbers() {
		check(t, api.OpDiv, b, 0, 0)
		check(t, api.OpRem, b, 0, b)
		check(t, api.OpRem, b, -1, 0)
		check(t, api.OpRem, b, 1, 0)
		check(t, api.OpDiv, b, 1, b)
		if b != least {
			check(t, api.OpDiv, b, -1, -b)
		}
	}
	check(t, api.OpDiv, least, -1, least)
}

func TestQuotientsAreRoundedTowardsZero(t *testing.T) {
	for _, x := range [][4]int64{
		{7, 2, 3, 1}, {-7, 2, -3, -1}, {7, -2, -3, 1}, {-7, -2, 3, -1},
		{1, 2, 0, 1}, {-1, 2, 0, -1}, {1, least, 0, 1}, {-1, least, 0, -1}, {least, least, 1, 0}, {least, most, -1, -1}, {most, least, 0, most},
	} {
		check(t, api.OpDiv, x[0], x[1], x[2])
		check(t, api.OpRem, x[0], x[1], x[3])
	}
}

func TestBitByBit(t *testing.T) {
	each(func(b, c int64) {
		check(t, api.OpAnd, b, c, bitwise(b, c, func(x, y uint) bool { return x == 1 && y == 1 }))
		check(t, api.OpOr, b, c, bitwise(b, c, func(x, y uint) bool { return x == 1 || y == 1 }))
		check(t, api.OpXor, b, c, bitwise(b, c, func(x, y uint) bool { return x != y }))
	})
}

func TestShiftsOfSomeBits(t *testing.T) {
	for _, b := range numbers() {
		for n := range int64(64) {
			power := new(big.Int).Lsh(big.NewInt(1), uint(n))
			check(t, api.OpShl, b, n, wrapped(new(big.Int).Mul(big.NewInt(b), power)))
			// Div rounds down where the divisor is above 0.
			check(t, api.OpShr, b, n, new(big.Int).Div(big.NewInt(b), power).Int64())
		}
	}
}

func TestShiftsOfAllBits(t *testing.T) {
	for _, b := range numbers() {
		rest := int64(0)
		if b < 0 {
			rest = -1
		}
		for _, n := range []int64{64, 65, 66, 127, 128, 129, 256, 1 << 31, 1 << 32, 1<<32 + 1, 1 << 62, most - 63, most - 1, most} {
			check(t, api.OpShl, b, n, 0)
			check(t, api.OpShr, b, n, rest)
		}
	}
}

func TestShiftsBelowZeroDoNothing(t *testing.T) {
	for _, b := range numbers() {
		for _, n := range []int64{-1, -2, -32, -63, -64, -65, -128, -1 << 32, 1 - 1<<32, least + 1, least} {
			check(t, api.OpShl, b, n, b)
			check(t, api.OpShr, b, n, b)
		}
	}
}

func TestLessAndEqual(t *testing.T) {
	each(func(b, c int64) {
		isLess, isEqual := int64(0), int64(0)
		switch big.NewInt(b).Cmp(big.NewInt(c)) {
		case -1:
			isLess = 1
		case 0:
			isEqual = 1
		}
		check(t, api.OpLess, b, c, isLess)
		check(t, api.OpEqual, b, c, isEqual)
	})
}

func TestOtherInstructions(t *testing.T) {
	list := []int{-1, -2, -api.OpAdd, -api.OpEqual, api.Ops + 1, math.MinInt, math.MinInt + 1, math.MaxInt - 1, math.MaxInt}
	// Numbers whose lowest bits are an instruction's of this layer.
	for _, far := range []int{1 << 8, 1 << 16, 1 << 32, 1 << 40, math.MinInt} {
		list = append(list, far+api.OpAdd, far+api.OpDiv, far+api.OpEqual)
	}
	for op := range api.Ops + 1 {
		if op < api.OpAdd || op > api.OpEqual {
			list = append(list, op)
		}
	}
	for _, op := range list {
		for _, x := range [][2]int64{{1, 1}, {0, 0}, {5, 0}, {least, -1}, {most, most}, {3, -1}, {3, 64}} {
			if v, e := Do(op, x[0], x[1]); v != 0 || e != api.ErrOp {
				t.Errorf("Do(%d, %d, %d): %d, %d", op, x[0], x[1], v, e)
			}
		}
	}
}

func TestWhichInstructionsThereAre(t *testing.T) {
	n := 0
	for op := -5; op < api.Ops+5; op++ {
		if _, e := Do(op, 3, 2); e == api.OK {
			n++
		}
	}
	if n != 12 {
		t.Errorf("%d instructions, not 12", n)
	}
}

// P4.2

func TestAddAndSubTakeOneAnotherBack(t *testing.T) {
	each(func(b, c int64) {
		if do(t, api.OpSub, do(t, api.OpAdd, b, c), c) != b || do(t, api.OpAdd, do(t, api.OpSub, b, c), c) != b {
			t.Errorf("%d and %d", b, c)
		}
	})
}

func TestQuotientAndRestAreTheWhole(t *testing.T) {
	each(func(b, c int64) {
		part := do(t, api.OpMul, do(t, api.OpDiv, b, c), c)
		if got := do(t, api.OpAdd, part, do(t, api.OpRem, b, c)); got != b {
			t.Errorf("%d by %d: together %d", b, c, got)
		}
	})
}

func TestRestIsNearerToZero(t *testing.T) {
	each(func(b, c int64) {
		if c == 0 {
			return
		}
		if r := do(t, api.OpRem, b, c); big.NewInt(r).CmpAbs(big.NewInt(c)) >= 0 {
			t.Errorf("%d by %d: the rest %d", b, c, r)
		}
	})
}

func TestXorTakesItselfBack(t *testing.T) {
	each(func(b, c int64) {
		if got := do(t, api.OpXor, do(t, api.OpXor, b, c), c); got != b {
			t.Errorf("%d and %d: %d", b, c, got)
		}
	})
}

func TestJustOneOfLessAndEqual(t *testing.T) {
	each(func(b, c int64) {
		if n := do(t, api.OpLess, b, c) + do(t, api.OpLess, c, b) + do(t, api.OpEqual, b, c); n != 1 {
			t.Errorf("%d and %d: %d", b, c, n)
		}
	})
}

func TestShlIsAProduct(t *testing.T) {
	eachShift(func(b, n int64) {
		if got, want := do(t, api.OpShl, b, n), do(t, api.OpMul, b, do(t, api.OpShl, 1, n)); got != want {
			t.Errorf("%d by %d: %d, not %d", b, n, got, want)
		}
	})
}

func TestShrTakesShlBack(t *testing.T) {
	kept := 0
	eachShift(func(b, n int64) {
		if lost(b, n) {
			return
		}
		kept++
		if got := do(t, api.OpShr, do(t, api.OpShl, b, n), n); got != b {
			t.Errorf("%d by %d and back: %d", b, n, got)
		}
	})
	if kept < 1000 {
		t.Errorf("%d shifts lose no bit", kept)
	}
}

// lost tells whether b * 2^n is beyond 64 bits.
func lost(b, n int64) bool {
	if b == 0 || n < 0 {
		return false
	}
	if n > 63 {
		return true
	}
	return !new(big.Int).Lsh(big.NewInt(b), uint(n)).IsInt64()
}

// R4

func TestTheSameAgain(t *testing.T) {
	list := []int64{0, 1, -1, 5, 64, most, least}
	ask := func() []int64 {
		var told []int64
		for op := -1; op <= api.Ops; op++ {
			for _, b := range list {
				for _, c := range list {
					v, e := Do(op, b, c)
					told = append(told, v, int64(e))
				}
			}
		}
		return told
	}
	first, second := ask(), ask()
	for i := range first {
		if first[i] != second[i] {
			t.Fatalf("the answer %d: %d, then %d", i, first[i], second[i])
		}
	}
}

// The chapter's examples

func TestExamples(t *testing.T) {
	for _, x := range []struct {
		op         int
		b, c, want int64
	}{
		{api.OpAdd, most, 1, least}, {api.OpSub, least, 1, most}, {api.OpMul, most, 2, -2},
		{api.OpDiv, 7, -2, -3}, {api.OpRem, 7, -2, 1}, {api.OpRem, -7, 2, -1}, {api.OpDiv, 5, 0, 0}, {api.OpRem, 5, 0, 5},
		{api.OpDiv, least, -1, least}, {api.OpRem, least, -1, 0},
		{api.OpShl, 1, 63, least}, {api.OpShl, 1, 64, 0}, {api.OpShl, 3, -1, 3},
		{api.OpShr, -1, 70, -1}, {api.OpShr, -5, 1, -3}, {api.OpShr, 5, 64, 0},
		{api.OpLess, least, most, 1}, {api.OpEqual, 3, 3, 1}, {api.OpXor, 6, 3, 5},
	} {
		check(t, x.op, x.b, x.c, x.want)
	}
	for _, op := range []int{api.OpFAdd, api.OpMove, -1} {
		if v, e := Do(op, 1, 1); v != 0 || e != api.ErrOp {
			t.Errorf("Do(%d, 1, 1): %d, %d", op, v, e)
		}
	}
}
