package tests

import (
	"fmt"
	"math"
	"math/big"
	"slices"
	"strings"
	"testing"

	"loop.example/g01156/impl"
)

func TestMaxLimbs(t *testing.T) {
	if impl.MaxLimbs != 200 {
		t.Errorf("MaxLimbs = %d", impl.MaxLimbs)
	}
}

func TestIsWhole(t *testing.T) {
	good := []impl.Whole{
		{}, {Limbs: []int64{}},
		{Sign: 1, Limbs: []int64{1}}, {Sign: -1, Limbs: []int64{1}},
		{Sign: 1, Limbs: []int64{1<<24 - 1}}, {Sign: -1, Limbs: []int64{0, 0, 1}},
		{Sign: 1, Limbs: slices.Repeat([]int64{1<<24 - 1}, 200)},
		{Sign: -1, Limbs: append(make([]int64, 199), 1)},
	}
	for _, a := range good {
		if !impl.IsWhole(a) {
			t.Errorf("%v is told to be no whole number", a)
		}
	}
	for name, a := range badWholes() {
		if impl.IsWhole(a) {
			t.Errorf("%s: %v is told to be a whole number", name, a)
		}
	}
	for _, n := range cornerWholes() {
		if !impl.IsWhole(wholeOf(n)) {
			t.Errorf("%v is told to be no whole number", n)
		}
	}
	if impl.IsWhole(whole("2^4800+0")) || impl.IsWhole(whole("-2^4800+0")) {
		t.Errorf("numbers that are too large are told to be whole numbers")
	}
}

func TestWholeOfAndIntegerOf(t *testing.T) {
	numbers := []int64{
		0, 1, -1, 7, -7, 1<<24 - 1, 1 << 24, -1 << 24, 1<<48 - 1, 1 << 48, 1<<48 + 1, -1<<48 - 5,
		math.MaxInt64, math.MaxInt64 - 1, -math.MaxInt64, math.MinInt64,
	}
	r := newRandom(21)
	for range 1000 {
		numbers = append(numbers, int64(r.Uint64())>>r.IntN(64))
	}
	for _, n := range numbers {
		a, code := impl.WholeOf(n)
		checkWhole(t, fmt.Sprintf("WholeOf(%d)", n), a, code, big.NewInt(n), impl.ErrNone)
		got, code := impl.IntegerOf(wholeOf(big.NewInt(n)))
		checkInteger(t, fmt.Sprintf("IntegerOf(%d)", n), got, code, n, impl.ErrNone)
	}
}

func TestIntegerOfNumbersThatAreTooLarge(t *testing.T) {
	for _, n := range cornerWholes() {
		want, code := n.Int64(), int64(impl.ErrNone)
		if !n.IsInt64() {
			want, code = 0, impl.ErrLimit
		}
		got, gotCode := impl.IntegerOf(wholeOf(n))
		checkInteger(t, fmt.Sprintf("IntegerOf(%v)", n), got, gotCode, want, code)
	}
	for _, text := range []string{
		"2^63+0", "-2^63-1", "2^63+12345", "2^64-1", "-2^64+1", "2^64+0", "-2^64+0", "2^64+5", "2^72+0",
		"-2^72+1", "2^71+0", "2^120+3", "-2^4800+1",
	} {
		got, code := impl.IntegerOf(whole(text))
		checkInteger(t, "IntegerOf("+text+")", got, code, 0, impl.ErrLimit)
	}
}

type wholesCase struct {
	a, b, want string
	code       int64
}

func checkWholesCases(t *testing.T, name string, f func(impl.Whole, impl.Whole) (impl.Whole, int64), cases []wholesCase) {
	t.Helper()
	for _, c := range cases {
		want := new(big.Int)
		if c.code == impl.ErrNone {
			want = integer(c.want)
		}
		a, code := f(whole(c.a), whole(c.b))
		checkWhole(t, fmt.Sprintf("%s(%s, %s)", name, c.a, c.b), a, code, want, c.code)
	}
}

// checkWholesOfPairs compares a function with one of big numbers.
func checkWholesOfPairs(t *testing.T, seed uint64, name string, f func(impl.Whole, impl.Whole) (impl.Whole, int64), wanted func(z, a, b *big.Int) *big.Int) {
	t.Helper()
	forIntegerPairs(t, seed, func(a, b *big.Int) {
		want := wanted(new(big.Int), a, b)
		c, code := f(wholeOf(a), wholeOf(b))
		checkWhole(t, fmt.Sprintf("%s(%v, %v)", name, a, b), c, code, want, limitCode(want))
	})
}

func TestAddWholes(t *testing.T) {
	checkWholesCases(t, "AddWholes", impl.AddWholes, []wholesCase{
		{"2", "3", "5", impl.ErrNone},
		{"0", "0", "0", impl.ErrNone},
		{"0", "-9", "-9", impl.ErrNone},
		{"-9", "0", "-9", impl.ErrNone},
		{"5", "-5", "0", impl.ErrNone},
		{"-5", "8", "3", impl.ErrNone},
		{"5", "-8", "-3", impl.ErrNone},
		{"-5", "-8", "-13", impl.ErrNone},
		{"16777215", "1", "16777216", impl.ErrNone},
		{"16777216", "-1", "16777215", impl.ErrNone},
		{"2^4800-2", "1", "2^4800-1", impl.ErrNone},
		{"2^4800-1", "-1", "2^4800-2", impl.ErrNone},
		{"2^4799+0", "2^4799-1", "2^4800-1", impl.ErrNone},
		{"-2^4799+0", "-2^4799+1", "-2^4800+1", impl.ErrNone},
		{"2^4800-1", "-2^4800+1", "0", impl.ErrNone},
		{"2^4800-1", "1", "", impl.ErrLimit},
		{"-1", "-2^4800+1", "", impl.ErrLimit},
		{"2^4799+0", "2^4799+0", "", impl.ErrLimit},
	})
	checkWholesOfPairs(t, 22, "AddWholes", impl.AddWholes, (*big.Int).Add)
}

func TestSubtractWholes(t *testing.T) {
	checkWholesCases(t, "SubtractWholes", impl.SubtractWholes, []wholesCase{
		{"2", "3", "-1", impl.ErrNone},
		{"0", "0", "0", impl.ErrNone},
		{"0", "9", "-9", impl.ErrNone},
		{"0", "-9", "9", impl.ErrNone},
		{"-9", "0", "-9", impl.ErrNone},
		{"-5", "-5", "0", impl.ErrNone},
		{"-5", "8", "-13", impl.ErrNone},
		{"2^48+0", "1", "281474976710655", impl.ErrNone},
		{"2^4800-1", "2^4800-1", "0", impl.ErrNone},
		{"-2^4800+2", "1", "-2^4800+1", impl.ErrNone},
		{"2^4800-2", "-1", "2^4800-1", impl.ErrNone},
		{"-2^4800+1", "1", "", impl.ErrLimit},
		{"2^4800-1", "-1", "", impl.ErrLimit},
		{"2^4799+0", "-2^4799+0", "", impl.ErrLimit},
	})
	checkWholesOfPairs(t, 23, "SubtractWholes", impl.SubtractWholes, (*big.Int).Sub)
}

func TestMultiplyWholes(t *testing.T) {
	checkWholesCases(t, "MultiplyWholes", impl.MultiplyWholes, []wholesCase{
		{"6", "7", "42", impl.ErrNone},
		{"-6", "7", "-42", impl.ErrNone},
		{"-6", "-7", "42", impl.ErrNone},
		{"0", "-7", "0", impl.ErrNone},
		{"-7", "0", "0", impl.ErrNone},
		{"2^4800-1", "0", "0", impl.ErrNone},
		{"2^4800-1", "-1", "-2^4800+1", impl.ErrNone},
		{"16777215", "16777215", "281474943156225", impl.ErrNone},
		{"2^2400-1", "2^2400+1", "2^4800-1", impl.ErrNone},
		{"2^2400+0", "2^2399+0", "2^4799+0", impl.ErrNone},
		{"2^2400+0", "2^2400+0", "", impl.ErrLimit},
		{"-2^2400+0", "2^2400+0", "", impl.ErrLimit},
		{"2^4799+0", "2", "", impl.ErrLimit},
		{"2^4800-1", "2^4800-1", "", impl.ErrLimit},
		{"2^4800-1", "-2^4800+1", "", impl.ErrLimit},
	})
	checkWholesOfPairs(t, 24, "MultiplyWholes", impl.MultiplyWholes, (*big.Int).Mul)
}

func TestDivideWholes(t *testing.T) {
	cases := []struct {
		a, b, quotient, rest string
		code                 int64
	}{
		{"7", "2", "3", "1", impl.ErrNone},
		{"-7", "2", "-3", "-1", impl.ErrNone},
		{"7", "-2", "-3", "1", impl.ErrNone},
		{"-7", "-2", "3", "-1", impl.ErrNone},
		{"-6", "2", "-3", "0", impl.ErrNone},
		{"0", "-5", "0", "0", impl.ErrNone},
		{"4", "5", "0", "4", impl.ErrNone},
		{"-4", "5", "0", "-4", impl.ErrNone},
		{"5", "-5", "-1", "0", impl.ErrNone},
		{"2^4800-1", "1", "2^4800-1", "0", impl.ErrNone},
		{"2^4800-1", "-1", "-2^4800+1", "0", impl.ErrNone},
		{"2^4800-1", "2^4800-1", "1", "0", impl.ErrNone},
		{"2^4800-2", "2^4800-1", "0", "2^4800-2", impl.ErrNone},
		{"2^4800-1", "2^2400+1", "2^2400-1", "0", impl.ErrNone},
		// The limb of the quotient is guessed to be 2^24, and 2^24 - 1.
		{"2^72-1", "2^48-1", "16777216", "16777215", impl.ErrNone},
		{"2^71+0", "2^47+1", "16777215", "140737471578113", impl.ErrNone},
		{"5", "0", "0", "0", impl.ErrState},
		{"0", "0", "0", "0", impl.ErrState},
		{"-2^4800+1", "0", "0", "0", impl.ErrState},
	}
	for _, c := range cases {
		quotient, rest, code := impl.DivideWholes(whole(c.a), whole(c.b))
		name := fmt.Sprintf("DivideWholes(%s, %s)", c.a, c.b)
		checkWhole(t, name+", quotient,", quotient, code, integer(c.quotient), c.code)
		checkWhole(t, name+", remainder,", rest, code, integer(c.rest), c.code)
	}
	forIntegerPairs(t, 25, func(a, b *big.Int) {
		if b.Sign() == 0 {
			return
		}
		wantQuotient, wantRest := new(big.Int).QuoRem(a, b, new(big.Int))
		quotient, rest, code := impl.DivideWholes(wholeOf(a), wholeOf(b))
		name := fmt.Sprintf("DivideWholes(%v, %v)", a, b)
		checkWhole(t, name+", quotient,", quotient, code, wantQuotient, impl.ErrNone)
		checkWhole(t, name+", remainder,", rest, code, wantRest, impl.ErrNone)
	})
}

func TestCompareWholes(t *testing.T) {
	forIntegerPairs(t, 26, func(a, b *big.Int) {
		n, code := impl.CompareWholes(wholeOf(a), wholeOf(b))
		checkInteger(t, fmt.Sprintf("CompareWholes(%v, %v)", a, b), n, code, int64(a.Cmp(b)), impl.ErrNone)
		n, code = impl.CompareWholes(wholeOf(a), wholeOf(a))
		checkInteger(t, fmt.Sprintf("CompareWholes(%v, %v)", a, a), n, code, 0, impl.ErrNone)
	})
}

type shiftCase struct {
	a    string
	k    int64
	want string
	code int64
}

func TestShiftWhole(t *testing.T) {
	cases := []shiftCase{
		{"-5", -1, "-3", impl.ErrNone},
		{"5", -1, "2", impl.ErrNone},
		{"-4", -1, "-2", impl.ErrNone},
		{"-4", -2, "-1", impl.ErrNone},
		{"-4", -3, "-1", impl.ErrNone},
		{"4", -3, "0", impl.ErrNone},
		{"-1", -5000, "-1", impl.ErrNone},
		{"1", -5000, "0", impl.ErrNone},
		{"-2^4800+1", -5000, "-1", impl.ErrNone},
		{"-2^4800+1", -4800, "-1", impl.ErrNone},
		{"-2^4800+1", -1, "-2^4799+0", impl.ErrNone},
		{"-2^4800+1", -24, "-2^4776+0", impl.ErrNone},
		{"2^4800-1", -4799, "1", impl.ErrNone},
		{"2^4800-1", -4800, "0", impl.ErrNone},
		{"3", 0, "3", impl.ErrNone},
		{"-3", 0, "-3", impl.ErrNone},
		{"3", 70, "3541774862152233910272", impl.ErrNone},
		{"-3", 1, "-6", impl.ErrNone},
		{"0", 5000, "0", impl.ErrNone},
		{"0", -5000, "0", impl.ErrNone},
		{"1", 4799, "2^4799+0", impl.ErrNone},
		{"-1", 4799, "-2^4799+0", impl.ErrNone},
		{"1", 4800, "", impl.ErrLimit},
		{"-1", 4800, "", impl.ErrLimit},
		{"3", 4799, "", impl.ErrLimit},
		{"1", 5000, "", impl.ErrLimit},
		{"2^4800-1", 1, "", impl.ErrLimit},
		{"2^4800-1", 5000, "", impl.ErrLimit},
		{"0", 5001, "", impl.ErrRange},
		{"0", -5001, "", impl.ErrRange},
		{"1", 5001, "", impl.ErrRange},
		{"1", -5001, "", impl.ErrRange},
		{"1", math.MaxInt64, "", impl.ErrRange},
		{"1", math.MinInt64, "", impl.ErrRange},
	}
	for _, c := range cases {
		want := new(big.Int)
		if c.code == impl.ErrNone {
			want = integer(c.want)
		}
		a, code := impl.ShiftWhole(whole(c.a), c.k)
		checkWhole(t, fmt.Sprintf("ShiftWhole(%s, %d)", c.a, c.k), a, code, want, c.code)
	}
	r := newRandom(27)
	forIntegers(t, 28, func(a *big.Int) {
		for _, k := range []int64{r.Int64N(5001), int64(a.BitLen() + r.IntN(5) - 2), r.Int64N(100), 24 * r.Int64N(9)} {
			up := new(big.Int).Lsh(a, uint(max(k, 0)))
			b, code := impl.ShiftWhole(wholeOf(a), max(k, 0))
			checkWhole(t, fmt.Sprintf("ShiftWhole(%v, %d)", a, max(k, 0)), b, code, up, limitCode(up))
			down := new(big.Int).Rsh(a, uint(max(k, 0)))
			b, code = impl.ShiftWhole(wholeOf(a), -max(k, 0))
			checkWhole(t, fmt.Sprintf("ShiftWhole(%v, %d)", a, -max(k, 0)), b, code, down, impl.ErrNone)
		}
	})
}

func TestLengthOfWhole(t *testing.T) {
	for text, want := range map[string]int64{
		"0": 0, "1": 1, "-1": 1, "2": 2, "-1024": 11, "1023": 10, "16777215": 24, "16777216": 25,
		"2^48+0": 49, "2^4799+0": 4800, "-2^4800+1": 4800, "2^4776-1": 4776,
	} {
		n, code := impl.LengthOfWhole(whole(text))
		checkInteger(t, "LengthOfWhole("+text+")", n, code, want, impl.ErrNone)
	}
	forIntegers(t, 29, func(a *big.Int) {
		n, code := impl.LengthOfWhole(wholeOf(a))
		checkInteger(t, fmt.Sprintf("LengthOfWhole(%v)", a), n, code, int64(a.BitLen()), impl.ErrNone)
	})
}

func TestTwosIn(t *testing.T) {
	for text, want := range map[string]int64{
		"1": 0, "-1": 0, "2": 1, "96": 5, "-96": 5, "16777215": 0, "16777216": 24, "-2^25+0": 25,
		"2^4799+0": 4799, "2^4800-1": 0, "2^4800-16777216": 24,
	} {
		n, code := impl.TwosIn(whole(text))
		checkInteger(t, "TwosIn("+text+")", n, code, want, impl.ErrNone)
	}
	forIntegers(t, 30, func(a *big.Int) {
		want, wantCode := int64(a.TrailingZeroBits()), int64(impl.ErrNone)
		if a.Sign() == 0 {
			wantCode = impl.ErrState
		}
		n, code := impl.TwosIn(wholeOf(a))
		checkInteger(t, fmt.Sprintf("TwosIn(%v)", a), n, code, want, wantCode)
	})
}

func TestPowerOfWhole(t *testing.T) {
	cases := []shiftCase{
		{"-3", 41, "-36472996377170786403", impl.ErrNone},
		{"-3", 2, "9", impl.ErrNone},
		{"10", 20, "100000000000000000000", impl.ErrNone},
		{"0", 0, "1", impl.ErrNone},
		{"-7", 0, "1", impl.ErrNone},
		{"2^4800-1", 0, "1", impl.ErrNone},
		{"2^4800-1", 1, "2^4800-1", impl.ErrNone},
		{"-2^4800+1", 1, "-2^4800+1", impl.ErrNone},
		{"0", 1, "0", impl.ErrNone},
		{"0", 200, "0", impl.ErrNone},
		{"1", 200, "1", impl.ErrNone},
		{"-1", 200, "1", impl.ErrNone},
		{"-1", 199, "-1", impl.ErrNone},
		{"2", 200, "2^200+0", impl.ErrNone},
		{"16777216", 199, "2^4776+0", impl.ErrNone},
		{"-2^959+0", 5, "-2^4795+0", impl.ErrNone},
		{"16777216", 200, "", impl.ErrLimit},
		{"2^960+0", 5, "", impl.ErrLimit},
		{"-2^2400+0", 2, "", impl.ErrLimit},
		{"-2^4800+1", 200, "", impl.ErrLimit},
		{"0", 201, "", impl.ErrRange},
		{"1", 201, "", impl.ErrRange},
		{"1", -1, "", impl.ErrRange},
		{"2^4800-1", 201, "", impl.ErrRange},
		{"1", math.MaxInt64, "", impl.ErrRange},
		{"1", math.MinInt64, "", impl.ErrRange},
	}
	for _, c := range cases {
		want := new(big.Int)
		if c.code == impl.ErrNone {
			want = integer(c.want)
		}
		a, code := impl.PowerOfWhole(whole(c.a), c.k)
		checkWhole(t, fmt.Sprintf("PowerOfWhole(%s, %d)", c.a, c.k), a, code, want, c.code)
	}
	r := newRandom(31)
	forIntegers(t, 32, func(a *big.Int) {
		k := r.Int64N(5)
		if a.BitLen() <= 48 {
			k = r.Int64N(201)
		}
		want := new(big.Int).Exp(a, big.NewInt(k), nil)
		b, code := impl.PowerOfWhole(wholeOf(a), k)
		checkWhole(t, fmt.Sprintf("PowerOfWhole(%v, %d)", a, k), b, code, want, limitCode(want))
	})
	// The greatest power of 200 limbs: each factor has just one.
	greatest := big.NewInt(1<<24 - 1)
	a, code := impl.PowerOfWhole(wholeOf(greatest), 200)
	checkWhole(t, "PowerOfWhole(16777215, 200)", a, code, new(big.Int).Exp(greatest, big.NewInt(200), nil), impl.ErrNone)
}

func TestRootOfWhole(t *testing.T) {
	for text, want := range map[string]string{
		"0": "0", "1": "1", "2": "1", "3": "1", "4": "2", "8": "2", "9": "3", "15": "3", "16": "4", "24": "4", "25": "5",
		"99999999999999999999": "9999999999", "100000000000000000000": "10000000000",
		"2^48-1": "16777215", "2^48+0": "16777216", "2^4800-1": "2^2400-1", "2^4798+0": "2^2399+0", "2^4798-1": "2^2399-1",
	} {
		a, code := impl.RootOfWhole(whole(text))
		checkWhole(t, "RootOfWhole("+text+")", a, code, integer(want), impl.ErrNone)
	}
	for _, text := range []string{"-1", "-4", "-16777216", "-2^4800+1"} {
		a, code := impl.RootOfWhole(whole(text))
		checkWhole(t, "RootOfWhole("+text+")", a, code, nil, impl.ErrState)
	}
	for n := range int64(3000) {
		a, code := impl.RootOfWhole(wholeOf(big.NewInt(n)))
		checkWhole(t, fmt.Sprintf("RootOfWhole(%d)", n), a, code, new(big.Int).Sqrt(big.NewInt(n)), impl.ErrNone)
	}
}

func TestCommonOfWholes(t *testing.T) {
	checkWholesCases(t, "CommonOfWholes", impl.CommonOfWholes, []wholesCase{
		{"-48", "36", "12", impl.ErrNone},
		{"36", "-48", "12", impl.ErrNone},
		{"-48", "-36", "12", impl.ErrNone},
		{"0", "0", "0", impl.ErrNone},
		{"0", "-5", "5", impl.ErrNone},
		{"-5", "0", "5", impl.ErrNone},
		{"0", "5", "5", impl.ErrNone},
		{"-2^4800+1", "0", "2^4800-1", impl.ErrNone},
		{"0", "2^4800-1", "2^4800-1", impl.ErrNone},
		{"-2^4800+1", "-2^4800+1", "2^4800-1", impl.ErrNone},
		{"7", "1", "1", impl.ErrNone},
		{"2^4799+0", "6", "2", impl.ErrNone},
		{"2^4800-1", "2^2400+1", "2^2400+1", impl.ErrNone},
	})
	r := newRandom(33)
	for range 400 {
		common := anyInteger(r, []int{1, 3, 90}[r.IntN(3)])
		a := new(big.Int).Mul(common, anyInteger(r, 100))
		b := new(big.Int).Mul(common, anyInteger(r, 100))
		c, code := impl.CommonOfWholes(wholeOf(a), wholeOf(b))
		want := new(big.Int).GCD(nil, nil, new(big.Int).Abs(a), new(big.Int).Abs(b))
		checkWhole(t, fmt.Sprintf("CommonOfWholes(%v, %v)", a, b), c, code, want, impl.ErrNone)
	}
}

// Numbers of Fibonacci need most steps.
func TestCommonOfNeighbours(t *testing.T) {
	a, b := big.NewInt(0), big.NewInt(1)
	for !isTooLarge(new(big.Int).Add(a, b)) {
		a, b = b, new(big.Int).Add(a, b)
	}
	c, code := impl.CommonOfWholes(wholeOf(a), wholeOf(b))
	checkWhole(t, "CommonOfWholes of the greatest numbers of Fibonacci", c, code, big.NewInt(1), impl.ErrNone)
}

func TestWholeText(t *testing.T) {
	for _, want := range []string{
		"0", "1", "-1", "10", "-10", "9223372036854775807", "-9223372036854775808", "99999999999", "-99999999999",
		"100000000000", "100000000001", "-1000000000000000000000000000000000", "1000000000010000000000200000000003",
	} {
		if text, code := impl.WholeText(whole(want)); text != want || code != impl.ErrNone {
			t.Errorf("WholeText of %s = %q, %d", want, text, code)
		}
	}
	forIntegers(t, 34, func(a *big.Int) {
		if text, code := impl.WholeText(wholeOf(a)); text != a.String() || code != impl.ErrNone {
			t.Errorf("WholeText of %v = %q, %d", a, text, code)
		}
	})
	if text, _ := impl.WholeText(whole("2^4800-1")); len(text) != 1445 {
		t.Errorf("the text of the greatest number has %d bytes", len(text))
	}
}

func TestParseWhole(t *testing.T) {
	forIntegers(t, 35, func(a *big.Int) {
		b, code := impl.ParseWhole(a.String())
		checkWhole(t, fmt.Sprintf("ParseWhole(%q)", a), b, code, a, impl.ErrNone)
	})
	for _, text := range []string{"0", "7", "-7", "10", "-100", "99999999999", "100000000000", "-1000000000000000000000"} {
		a, code := impl.ParseWhole(text)
		checkWhole(t, fmt.Sprintf("ParseWhole(%q)", text), a, code, integer(text), impl.ErrNone)
	}
	digits := strings.Repeat("1234567890", 1000)
	for _, text := range []string{
		"", "-", "--1", "+1", "+", "-0", "00", "01", "-01", "000", "-00", "1 ", " 1", "- 1", "1-", "1-1", "1a", "a", "0x1",
		"1_000", "1.0", "1e3", "1\n", "\x00", "1\x00", "/", ":", "1/", "1:", "\u0661", "\uff11", "1\xff", "0-", "0 ",
		digits + "x", "x" + digits, "-" + digits + "-", "0" + digits, "-0" + digits, strings.Repeat("0", 3000),
	} {
		a, code := impl.ParseWhole(text)
		checkWhole(t, fmt.Sprintf("ParseWhole(%q)", text), a, code, nil, impl.ErrSyntax)
	}
}

func TestParseWholeOfNumbersThatAreTooLarge(t *testing.T) {
	for _, text := range []string{"2^4800+0", "-2^4800+0", "2^4800+1", "2^4801+0", "-2^4824-1", "2^9600+0"} {
		a, code := impl.ParseWhole(integer(text).String())
		checkWhole(t, "ParseWhole of the text of "+text, a, code, nil, impl.ErrLimit)
	}
	for _, text := range []string{
		strings.Repeat("9", 1445), "1" + strings.Repeat("0", 1445), "-1" + strings.Repeat("0", 1445),
		strings.Repeat("12", 500000),
	} {
		a, code := impl.ParseWhole(text)
		checkWhole(t, fmt.Sprintf("ParseWhole of %d digits", len(text)), a, code, nil, impl.ErrLimit)
	}
	a, code := impl.ParseWhole("1" + strings.Repeat("0", 1444))
	checkWhole(t, "ParseWhole of 10^1444", a, code, new(big.Int).Exp(big.NewInt(10), big.NewInt(1444), nil), impl.ErrNone)
}
