package tests

import (
	"fmt"
	"math"
	"math/big"
	"strings"
	"testing"

	"loop.example/g01156/impl"
)

func TestIsDyadic(t *testing.T) {
	good := []impl.Dyadic{
		{}, {Whole: impl.Whole{Limbs: []int64{}}}, dyadic("1p0"), dyadic("-1p0"), dyadic("-3p-2"), dyadic("1p5000"),
		dyadic("1p-5000"), dyadic("-1p5000"), dyadic("-1p-5000"), dyadic("2^4800-1p5000"), dyadic("-2^4800+1p-5000"),
		dyadic("2^4799+1p0"), dyadic("2^24+1p7"), dyadic("2^24-1p7"),
	}
	for _, d := range good {
		if !impl.IsDyadic(d) {
			t.Errorf("%v is told to be no exact number", d)
		}
	}
	for why, d := range badDyadics() {
		if impl.IsDyadic(d) {
			t.Errorf("%s: %v is told to be an exact number", why, d)
		}
	}
	forBinaries(t, 61, func(b binary) {
		if !impl.IsDyadic(dyadicOf(b)) {
			t.Errorf("%v is told to be no exact number", b)
		}
	})
}

// placeCase has an argument k or e, and a result with a code.
type placeCase struct {
	d    string
	k    int64
	want string
	code int64
}

func wantedOf(want string, code int64) binary {
	if code != impl.ErrNone {
		return binary{}
	}
	return number(want)
}

func checkPlaces(t *testing.T, name string, f func(impl.Dyadic, int64) (impl.Dyadic, int64), cases []placeCase) {
	t.Helper()
	for _, c := range cases {
		d, code := f(dyadic(c.d), c.k)
		checkDyadic(t, fmt.Sprintf("%s(%s, %d)", name, c.d, c.k), d, code, wantedOf(c.want, c.code), c.code)
	}
}

// outside are the numbers that are not in -limit..limit, with 0 in front for which they are not
// taken either.
func outside(d string, limit int64) []placeCase {
	var cases []placeCase
	for _, k := range []int64{limit + 1, -limit - 1, math.MaxInt64, math.MinInt64} {
		cases = append(cases, placeCase{d, k, "", impl.ErrRange}, placeCase{"0p0", k, "", impl.ErrRange})
	}
	return cases
}

func TestMakeDyadic(t *testing.T) {
	cases := []struct {
		a    string
		e    int64
		want string
		code int64
	}{
		{"12", -3, "3p-1", impl.ErrNone},
		{"-12", -3, "-3p-1", impl.ErrNone},
		{"0", 0, "0p0", impl.ErrNone},
		{"0", 7, "0p0", impl.ErrNone},
		{"0", 10000, "0p0", impl.ErrNone},
		{"0", -10000, "0p0", impl.ErrNone},
		{"7", 0, "7p0", impl.ErrNone},
		{"2^24+0", 1, "1p25", impl.ErrNone},
		{"2^48+16777216", -24, "2^24+1p0", impl.ErrNone},
		{"1", 5000, "1p5000", impl.ErrNone},
		{"1", -5000, "1p-5000", impl.ErrNone},
		{"2", 4999, "1p5000", impl.ErrNone},
		{"-2^4799+0", 201, "-1p5000", impl.ErrNone},
		{"2^4799+0", -9799, "1p-5000", impl.ErrNone},
		{"3", -5000, "3p-5000", impl.ErrNone},
		{"6", -5001, "3p-5000", impl.ErrNone},
		{"2^4800-1", 5000, "2^4800-1p5000", impl.ErrNone},
		{"-2^4800+1", -5000, "-2^4800+1p-5000", impl.ErrNone},
		{"1", 5001, "", impl.ErrLimit},
		{"1", -5001, "", impl.ErrLimit},
		{"2", 5000, "", impl.ErrLimit},
		{"3", -5001, "", impl.ErrLimit},
		{"2^4799+0", 202, "", impl.ErrLimit},
		{"2^4799+0", -9800, "", impl.ErrLimit},
		{"2^4799+0", -10000, "", impl.ErrLimit},
		{"1", 10000, "", impl.ErrLimit},
		{"-1", -10000, "", impl.ErrLimit},
		{"1", 10001, "", impl.ErrRange},
		{"1", -10001, "", impl.ErrRange},
		{"0", 10001, "", impl.ErrRange},
		{"0", -10001, "", impl.ErrRange},
		{"2^4799+0", -10001, "", impl.ErrRange},
		{"1", math.MaxInt64, "", impl.ErrRange},
		{"1", math.MinInt64, "", impl.ErrRange},
	}
	for _, c := range cases {
		d, code := impl.MakeDyadic(whole(c.a), c.e)
		checkDyadic(t, fmt.Sprintf("MakeDyadic(%s, %d)", c.a, c.e), d, code, wantedOf(c.want, c.code), c.code)
	}
	r := newRandom(62)
	forIntegers(t, 63, func(n *big.Int) {
		want := binary{n, r.Int64N(20001) - 10000}
		d, code := impl.MakeDyadic(wholeOf(n), want.exponent)
		checkDyadic(t, fmt.Sprintf("MakeDyadic(%v)", want), d, code, want, dyadicCode(want))
	})
	for why, bad := range badWholes() {
		for _, e := range []int64{0, 10001, -10001} {
			d, code := impl.MakeDyadic(bad, e)
			checkDyadic(t, "MakeDyadic, "+why, d, code, binary{}, impl.ErrInvalid)
		}
	}
}

type dyadicsCase struct {
	c, d, want string
	code       int64
}

func checkDyadicsCases(t *testing.T, name string, f func(impl.Dyadic, impl.Dyadic) (impl.Dyadic, int64), cases []dyadicsCase) {
	t.Helper()
	for _, c := range cases {
		d, code := f(dyadic(c.c), dyadic(c.d))
		checkDyadic(t, fmt.Sprintf("%s(%s, %s)", name, c.c, c.d), d, code, wantedOf(c.want, c.code), c.code)
	}
}

// checkDyadicsOfPairs compares a function with one of numbers of any size.
func checkDyadicsOfPairs(t *testing.T, seed uint64, name string, f func(impl.Dyadic, impl.Dyadic) (impl.Dyadic, int64), wanted func(a, b binary) binary) {
	t.Helper()
	forBinaryPairs(t, seed, func(a, b binary) {
		want := wanted(a, b)
		d, code := f(dyadicOf(a), dyadicOf(b))
		checkDyadic(t, fmt.Sprintf("%s(%v, %v)", name, a, b), d, code, want, dyadicCode(want))
	})
}

func TestAddDyadics(t *testing.T) {
	checkDyadicsCases(t, "AddDyadics", impl.AddDyadics, []dyadicsCase{
		{"3p-2", "-5p1", "-37p-2", impl.ErrNone},
		{"1p0", "1p0", "1p1", impl.ErrNone},
		{"3p-2", "-3p-2", "0p0", impl.ErrNone},
		{"0p0", "0p0", "0p0", impl.ErrNone},
		{"0p0", "-1p5000", "-1p5000", impl.ErrNone},
		{"2^4800-1p-5000", "0p0", "2^4800-1p-5000", impl.ErrNone},
		{"1p-5000", "1p-5000", "1p-4999", impl.ErrNone},
		{"1p5000", "-1p5000", "0p0", impl.ErrNone},
		// Whole numbers of most limbs, and of one more.
		{"1p4799", "1p0", "2^4799+1p0", impl.ErrNone},
		{"1p4800", "-1p0", "2^4800-1p0", impl.ErrNone},
		{"1p4800", "1p0", "", impl.ErrLimit},
		{"1p4801", "-1p0", "", impl.ErrLimit},
		{"-1p4800", "-1p0", "", impl.ErrLimit},
		{"2^4800-1p0", "1p0", "1p4800", impl.ErrNone},
		{"2^4800-1p0", "2^4800-3p0", "2^4799-1p2", impl.ErrNone},
		{"2^4800-1p0", "2^4800-1p0", "2^4800-1p1", impl.ErrNone},
		{"2^4800-1p0", "1p-1", "", impl.ErrLimit},
		{"1p5000", "1p201", "2^4799+1p201", impl.ErrNone},
		{"1p5000", "1p200", "", impl.ErrLimit},
		{"1p5000", "-1p-5000", "", impl.ErrLimit},
		// Exponents at the end of their range.
		{"1p4999", "1p4999", "1p5000", impl.ErrNone},
		{"1p5000", "1p4999", "3p4999", impl.ErrNone},
		{"1p5000", "1p5000", "", impl.ErrLimit},
		{"3p5000", "-1p5000", "", impl.ErrLimit},
		{"-1p5000", "-3p5000", "", impl.ErrLimit},
		{"2^4800-1p5000", "-2^4800+1p5000", "0p0", impl.ErrNone},
	})
	checkDyadicsOfPairs(t, 64, "AddDyadics", impl.AddDyadics, plus)
}

func TestSubtractDyadics(t *testing.T) {
	checkDyadicsCases(t, "SubtractDyadics", impl.SubtractDyadics, []dyadicsCase{
		{"3p-2", "-5p1", "43p-2", impl.ErrNone},
		{"-5p1", "3p-2", "-43p-2", impl.ErrNone},
		{"3p-2", "3p-2", "0p0", impl.ErrNone},
		{"0p0", "0p0", "0p0", impl.ErrNone},
		{"0p0", "1p5000", "-1p5000", impl.ErrNone},
		{"-1p-5000", "0p0", "-1p-5000", impl.ErrNone},
		{"-1p-5000", "1p-5000", "-1p-4999", impl.ErrNone},
		{"1p4800", "1p0", "2^4800-1p0", impl.ErrNone},
		{"1p4799", "-1p0", "2^4799+1p0", impl.ErrNone},
		{"1p4800", "-1p0", "", impl.ErrLimit},
		{"-1p4801", "-1p0", "", impl.ErrLimit},
		{"1p5000", "-1p5000", "", impl.ErrLimit},
		{"1p5000", "3p5000", "", impl.ErrLimit},
		{"1p-5000", "1p5000", "", impl.ErrLimit},
		{"2^4800-1p5000", "2^4800-1p5000", "0p0", impl.ErrNone},
	})
	checkDyadicsOfPairs(t, 65, "SubtractDyadics", impl.SubtractDyadics, minus)
}

func TestMultiplyDyadics(t *testing.T) {
	checkDyadicsCases(t, "MultiplyDyadics", impl.MultiplyDyadics, []dyadicsCase{
		{"3p-2", "-5p1", "-15p-1", impl.ErrNone},
		{"-3p-2", "-5p1", "15p-1", impl.ErrNone},
		{"0p0", "-1p5000", "0p0", impl.ErrNone},
		{"2^4800-1p-5000", "0p0", "0p0", impl.ErrNone},
		{"1p2500", "-1p2500", "-1p5000", impl.ErrNone},
		{"1p-2500", "1p-2500", "1p-5000", impl.ErrNone},
		{"1p5000", "1p-5000", "1p0", impl.ErrNone},
		{"2^2400-1p7", "2^2400+1p-7", "2^4800-1p0", impl.ErrNone},
		{"2^4800-1p4999", "-1p1", "-2^4800+1p5000", impl.ErrNone},
		{"1p2500", "1p2501", "", impl.ErrLimit},
		{"1p-2500", "-1p-2501", "", impl.ErrLimit},
		{"1p5000", "1p5000", "", impl.ErrLimit},
		{"1p-5000", "1p-5000", "", impl.ErrLimit},
		{"2^2400+1p0", "2^2400+1p0", "", impl.ErrLimit},
		{"2^4800-1p0", "3p0", "", impl.ErrLimit},
		{"2^4800-1p0", "-2^4800+1p0", "", impl.ErrLimit},
	})
	checkDyadicsOfPairs(t, 66, "MultiplyDyadics", impl.MultiplyDyadics, times)
}

func TestCompareDyadics(t *testing.T) {
	for _, c := range []struct {
		c, d string
		want int64
	}{
		{"3p-2", "-5p1", 1}, {"-5p1", "3p-2", -1}, {"3p-2", "3p-2", 0}, {"0p0", "0p0", 0}, {"0p0", "1p-5000", -1},
		{"-1p-5000", "0p0", -1}, {"1p5000", "1p-5000", 1}, {"-1p5000", "1p-5000", -1}, {"-1p5000", "-1p-5000", -1},
		{"2^4800-1p-4800", "1p0", -1}, {"2^4799+1p-4799", "1p0", 1}, {"2^4800-1p5000", "-2^4800+1p5000", 1},
		{"2^4800-1p5000", "2^4800-1p-5000", 1}, {"2^4800-1p5000", "2^4800-1p5000", 0}, {"3p0", "5p0", -1}, {"3p1", "5p0", 1},
	} {
		n, code := impl.CompareDyadics(dyadic(c.c), dyadic(c.d))
		checkInteger(t, fmt.Sprintf("CompareDyadics(%s, %s)", c.c, c.d), n, code, c.want, impl.ErrNone)
	}
	forBinaryPairs(t, 67, func(a, b binary) {
		n, code := impl.CompareDyadics(dyadicOf(a), dyadicOf(b))
		checkInteger(t, fmt.Sprintf("CompareDyadics(%v, %v)", a, b), n, code, int64(compare(a, b)), impl.ErrNone)
		n, code = impl.CompareDyadics(dyadicOf(a), dyadicOf(a))
		checkInteger(t, fmt.Sprintf("CompareDyadics of %v and itself", a), n, code, 0, impl.ErrNone)
	})
}

func TestScaleDyadic(t *testing.T) {
	checkPlaces(t, "ScaleDyadic", impl.ScaleDyadic, []placeCase{
		{"3p-2", 5, "3p3", impl.ErrNone},
		{"-3p-2", -5, "-3p-7", impl.ErrNone},
		{"3p-2", 0, "3p-2", impl.ErrNone},
		{"0p0", 5, "0p0", impl.ErrNone},
		{"0p0", 10000, "0p0", impl.ErrNone},
		{"0p0", -10000, "0p0", impl.ErrNone},
		{"1p-5000", 10000, "1p5000", impl.ErrNone},
		{"-1p5000", -10000, "-1p-5000", impl.ErrNone},
		{"2^4800-1p5000", -10000, "2^4800-1p-5000", impl.ErrNone},
		{"1p5000", 0, "1p5000", impl.ErrNone},
		{"1p5000", 1, "", impl.ErrLimit},
		{"1p-5000", -1, "", impl.ErrLimit},
		{"1p-4999", 10000, "", impl.ErrLimit},
		{"1p4999", -10000, "", impl.ErrLimit},
		{"1p5000", 10000, "", impl.ErrLimit},
	})
	checkPlaces(t, "ScaleDyadic", impl.ScaleDyadic, append(outside("1p-5000", 10000), outside("1p5000", 10000)...))
	r := newRandom(68)
	forBinaries(t, 69, func(b binary) {
		k := r.Int64N(20001) - 10000
		want := binary{b.whole, b.exponent + k}
		d, code := impl.ScaleDyadic(dyadicOf(b), k)
		checkDyadic(t, fmt.Sprintf("ScaleDyadic(%v, %d)", b, k), d, code, want, dyadicCode(want))
	})
}

func TestFloorDyadic(t *testing.T) {
	checkPlaces(t, "FloorDyadic", impl.FloorDyadic, []placeCase{
		{"3p-2", 0, "0p0", impl.ErrNone},
		{"-3p-2", 0, "-1p0", impl.ErrNone},
		{"7p-1", 0, "3p0", impl.ErrNone},
		{"-7p-1", 0, "-1p2", impl.ErrNone},
		{"0p0", 0, "0p0", impl.ErrNone},
		{"0p0", 1000, "0p0", impl.ErrNone},
		{"0p0", -1000, "0p0", impl.ErrNone},
		{"7p0", -1, "3p1", impl.ErrNone},
		{"-7p0", -1, "-1p3", impl.ErrNone},
		{"13p-4", 2, "3p-2", impl.ErrNone},
		{"-13p-4", 2, "-1p0", impl.ErrNone},
		// Multiples themselves.
		{"13p-4", 4, "13p-4", impl.ErrNone},
		{"-13p-4", 4, "-13p-4", impl.ErrNone},
		{"13p-4", 1000, "13p-4", impl.ErrNone},
		{"-1p1000", -1000, "-1p1000", impl.ErrNone},
		{"1p-1000", 1000, "1p-1000", impl.ErrNone},
		{"1p5000", -1000, "1p5000", impl.ErrNone},
		{"-2^4800+1p5000", 1000, "-2^4800+1p5000", impl.ErrNone},
		{"2^4800-1p-1000", 1000, "2^4800-1p-1000", impl.ErrNone},
		// Numbers just beside multiples, and far below them.
		{"1p-1001", 1000, "0p0", impl.ErrNone},
		{"-1p-1001", 1000, "-1p-1000", impl.ErrNone},
		{"3p-1001", 1000, "1p-1000", impl.ErrNone},
		{"1p-5000", 1000, "0p0", impl.ErrNone},
		{"-1p-5000", 1000, "-1p-1000", impl.ErrNone},
		{"-1p-5000", -1000, "-1p1000", impl.ErrNone},
		{"1p999", -1000, "0p0", impl.ErrNone},
		{"2^4800-1p-4800", 0, "0p0", impl.ErrNone},
		{"-2^4800+1p-4800", 0, "-1p0", impl.ErrNone},
		{"-2^4799-1p-4799", 0, "-1p1", impl.ErrNone},
		// Results whose exponents are large.
		{"2^4001+1p999", -1000, "1p5000", impl.ErrNone},
		{"2^4002+1p999", -1000, "", impl.ErrLimit},
		{"2^4799+1p999", -1000, "", impl.ErrLimit},
		{"2^4800-1p999", -1000, "2^4799-1p1000", impl.ErrNone},
		{"-2^4800+1p999", -1000, "", impl.ErrLimit},
		{"-2^4001+1p999", -1000, "-1p5000", impl.ErrNone},
		{"-2^4002+1p999", -1000, "", impl.ErrLimit},
	})
	checkPlaces(t, "FloorDyadic", impl.FloorDyadic, append(outside("-3p-2", 1000), outside("-2^4800+1p999", 1000)...))
	r := newRandom(70)
	forBinaries(t, 71, func(b binary) {
		k := placeNear(b, r.Int64N(12)-6, r.Int64N(2001)-1000, r.IntN(2) == 0)
		want := floorOf(b, k)
		d, code := impl.FloorDyadic(dyadicOf(b), k)
		checkDyadic(t, fmt.Sprintf("FloorDyadic(%v, %d)", b, k), d, code, want, dyadicCode(want))
	})
}

// placeNear is a k for which 2^-k is near the last bit of b, or any other one.
func placeNear(b binary, near, other int64, isNear bool) int64 {
	if k := near - b.exponent; isNear && k >= -1000 && k <= 1000 {
		return k
	}
	return other
}

func TestCeilDyadic(t *testing.T) {
	checkPlaces(t, "CeilDyadic", impl.CeilDyadic, []placeCase{
		{"3p-2", 0, "1p0", impl.ErrNone},
		{"-3p-2", 0, "0p0", impl.ErrNone},
		{"7p-1", 0, "1p2", impl.ErrNone},
		{"-7p-1", 0, "-3p0", impl.ErrNone},
		{"0p0", 0, "0p0", impl.ErrNone},
		{"0p0", 1000, "0p0", impl.ErrNone},
		{"0p0", -1000, "0p0", impl.ErrNone},
		{"7p0", -1, "1p3", impl.ErrNone},
		{"-7p0", -1, "-3p1", impl.ErrNone},
		{"13p-4", 2, "1p0", impl.ErrNone},
		{"-13p-4", 2, "-3p-2", impl.ErrNone},
		{"13p-4", 4, "13p-4", impl.ErrNone},
		{"-13p-4", 4, "-13p-4", impl.ErrNone},
		{"-13p-4", 1000, "-13p-4", impl.ErrNone},
		{"1p1000", -1000, "1p1000", impl.ErrNone},
		{"-1p-1000", 1000, "-1p-1000", impl.ErrNone},
		{"-1p5000", -1000, "-1p5000", impl.ErrNone},
		{"2^4800-1p5000", 1000, "2^4800-1p5000", impl.ErrNone},
		{"1p-1001", 1000, "1p-1000", impl.ErrNone},
		{"-1p-1001", 1000, "0p0", impl.ErrNone},
		{"-3p-1001", 1000, "-1p-1000", impl.ErrNone},
		{"1p-5000", 1000, "1p-1000", impl.ErrNone},
		{"1p-5000", -1000, "1p1000", impl.ErrNone},
		{"-1p-5000", 1000, "0p0", impl.ErrNone},
		{"1p999", -1000, "1p1000", impl.ErrNone},
		{"2^4800-1p-4800", 0, "1p0", impl.ErrNone},
		{"2^4799+1p-4799", 0, "1p1", impl.ErrNone},
		{"2^4800-1p999", -1000, "", impl.ErrLimit},
		{"2^4001-1p999", -1000, "1p5000", impl.ErrNone},
		{"2^4002-1p999", -1000, "", impl.ErrLimit},
		{"-2^4001-1p999", -1000, "-1p5000", impl.ErrNone},
		{"-2^4002-1p999", -1000, "", impl.ErrLimit},
	})
	checkPlaces(t, "CeilDyadic", impl.CeilDyadic, append(outside("-3p-2", 1000), outside("2^4800-1p999", 1000)...))
	r := newRandom(72)
	forBinaries(t, 73, func(b binary) {
		k := placeNear(b, r.Int64N(12)-6, r.Int64N(2001)-1000, r.IntN(2) == 0)
		want := ceilOf(b, k)
		d, code := impl.CeilDyadic(dyadicOf(b), k)
		checkDyadic(t, fmt.Sprintf("CeilDyadic(%v, %d)", b, k), d, code, want, dyadicCode(want))
	})
}

func TestRootAbove(t *testing.T) {
	checkPlaces(t, "RootAbove", impl.RootAbove, []placeCase{
		{"1p1", 2, "3p-1", impl.ErrNone},
		{"1p1", 0, "1p1", impl.ErrNone},
		{"0p0", 0, "0p0", impl.ErrNone},
		{"0p0", 200, "0p0", impl.ErrNone},
		// Squares.
		{"1p0", 0, "1p0", impl.ErrNone},
		{"9p-2", 10, "3p-1", impl.ErrNone},
		{"9p-2", 1, "3p-1", impl.ErrNone},
		{"9p-2", 0, "1p1", impl.ErrNone},
		{"25p0", 0, "5p0", impl.ErrNone},
		{"25p0", 200, "5p0", impl.ErrNone},
		{"1p398", 0, "1p199", impl.ErrNone},
		{"1p-400", 200, "1p-200", impl.ErrNone},
		{"1p-400", 199, "1p-199", impl.ErrNone},
		{"9p-400", 200, "3p-200", impl.ErrNone},
		// Numbers just above and below squares.
		{"2^400+1p-400", 200, "2^200+1p-200", impl.ErrNone},
		{"2^400-1p-400", 200, "1p0", impl.ErrNone},
		{"2^4799+1p-4799", 0, "1p1", impl.ErrNone},
		{"2^4800-1p-4800", 0, "1p0", impl.ErrNone},
		{"1p-401", 200, "1p-200", impl.ErrNone},
		{"3p-401", 200, "1p-199", impl.ErrNone},
		{"1p-5000", 0, "1p0", impl.ErrNone},
		{"1p-5000", 200, "1p-200", impl.ErrNone},
		{"2^4800-1p-5000", 200, "1p-100", impl.ErrNone},
		// Numbers at 2^400.
		{"2^400-1p0", 0, "1p200", impl.ErrNone},
		{"2^4800-1p-4400", 200, "1p200", impl.ErrNone},
		{"1p400", 0, "", impl.ErrRange},
		{"1p401", 200, "", impl.ErrRange},
		{"2^4799+1p-4399", 0, "", impl.ErrRange},
		{"2^4800-1p-4399", 0, "", impl.ErrRange},
		{"1p5000", 0, "", impl.ErrRange},
		{"-1p0", 0, "", impl.ErrRange},
		{"-1p-5000", 200, "", impl.ErrRange},
		{"-2^4800+1p5000", 200, "", impl.ErrRange},
		// The range of k.
		{"1p0", -1, "", impl.ErrRange},
		{"1p0", 201, "", impl.ErrRange},
		{"0p0", -1, "", impl.ErrRange},
		{"0p0", 201, "", impl.ErrRange},
		{"-1p0", 201, "", impl.ErrRange},
		{"1p0", math.MaxInt64, "", impl.ErrRange},
		{"1p0", math.MinInt64, "", impl.ErrRange},
	})
	forRoots(t, 74, func(b binary, k int64) {
		d, code := impl.RootAbove(dyadicOf(b), k)
		checkDyadic(t, fmt.Sprintf("RootAbove(%v, %d)", b, k), d, code, rootAboveOf(b, k), impl.ErrNone)
	})
}

// rootAboveOf is the least multiple of 2^-k whose square is not less than b.
func rootAboveOf(b binary, k int64) binary {
	square := ceilOf(b, 2*k)
	if square.exponent > -2*k {
		square = binary{multiplesOf(square, -2*k), -2 * k}
	}
	root := new(big.Int).Sqrt(square.whole)
	if new(big.Int).Mul(root, root).Cmp(square.whole) < 0 {
		root.Add(root, big.NewInt(1))
	}
	return binary{root, -k}
}

func TestRootAboveOfNumbersOutOfRange(t *testing.T) {
	forBinaries(t, 75, func(b binary) {
		if !isRooted(b) {
			d, code := impl.RootAbove(dyadicOf(b), 7)
			checkDyadic(t, fmt.Sprintf("RootAbove(%v, 7)", b), d, code, binary{}, impl.ErrRange)
		}
	})
}

type exactsCase struct {
	e, f   [2]string
	re, im string
	code   int64
}

func exactOf(parts [2]string) impl.Exact {
	return impl.Exact{Real: dyadic(parts[0]), Imag: dyadic(parts[1])}
}

func checkExacts(t *testing.T, name string, f func(impl.Exact, impl.Exact) (impl.Exact, int64), cases []exactsCase) {
	t.Helper()
	for _, c := range cases {
		e, code := f(exactOf(c.e), exactOf(c.f))
		checkExact(t, fmt.Sprintf("%s(%v, %v)", name, c.e, c.f), e, code, wantedOf(c.re, c.code), wantedOf(c.im, c.code), c.code)
	}
}

// worstCode is that of the first number that is too large.
func worstCode(list ...binary) int64 {
	for _, b := range list {
		if code := dyadicCode(b); code != impl.ErrNone {
			return code
		}
	}
	return impl.ErrNone
}

func TestAddExacts(t *testing.T) {
	checkExacts(t, "AddExacts", impl.AddExacts, []exactsCase{
		{[2]string{"1p0", "1p1"}, [2]string{"3p0", "-5p0"}, "1p2", "-3p0", impl.ErrNone},
		{[2]string{"1p0", "-3p-2"}, [2]string{"-1p0", "3p-2"}, "0p0", "0p0", impl.ErrNone},
		{[2]string{"0p0", "0p0"}, [2]string{"1p5000", "-1p-5000"}, "1p5000", "-1p-5000", impl.ErrNone},
		{[2]string{"1p4799", "1p4800"}, [2]string{"1p0", "-1p0"}, "2^4799+1p0", "2^4800-1p0", impl.ErrNone},
		{[2]string{"1p4800", "1p0"}, [2]string{"1p0", "1p0"}, "", "", impl.ErrLimit},
		{[2]string{"1p0", "1p4800"}, [2]string{"1p0", "1p0"}, "", "", impl.ErrLimit},
		{[2]string{"1p5000", "1p0"}, [2]string{"1p5000", "1p0"}, "", "", impl.ErrLimit},
		{[2]string{"1p0", "3p5000"}, [2]string{"1p0", "-1p5000"}, "", "", impl.ErrLimit},
	})
	r := newRandom(76)
	forBinaryPairs(t, 77, func(a, b binary) {
		c, d := anyBinary(r), anyBinary(r)
		re, im := plus(a, b), plus(c, d)
		e, code := impl.AddExacts(impl.Exact{Real: dyadicOf(a), Imag: dyadicOf(c)}, impl.Exact{Real: dyadicOf(b), Imag: dyadicOf(d)})
		checkExact(t, fmt.Sprintf("AddExacts(%v %v, %v %v)", a, c, b, d), e, code, re, im, worstCode(re, im))
	})
}

func TestMultiplyExacts(t *testing.T) {
	checkExacts(t, "MultiplyExacts", impl.MultiplyExacts, []exactsCase{
		{[2]string{"1p0", "1p1"}, [2]string{"3p0", "-5p0"}, "13p0", "1p0", impl.ErrNone},
		{[2]string{"0p0", "1p0"}, [2]string{"0p0", "1p0"}, "-1p0", "0p0", impl.ErrNone},
		{[2]string{"0p0", "0p0"}, [2]string{"1p5000", "-1p-5000"}, "0p0", "0p0", impl.ErrNone},
		{[2]string{"1p5000", "1p-5000"}, [2]string{"1p0", "0p0"}, "1p5000", "1p-5000", impl.ErrNone},
		{[2]string{"2^2400-1p0", "0p0"}, [2]string{"0p0", "2^2400+1p0"}, "0p0", "2^4800-1p0", impl.ErrNone},
		{[2]string{"2^2400+1p0", "0p0"}, [2]string{"0p0", "2^2400+1p0"}, "", "", impl.ErrLimit},
		// Just one product is too large, while both parts of the result are not.
		{[2]string{"1p2500", "1p2498"}, [2]string{"1p2501", "3p2500"}, "", "", impl.ErrLimit},
		{[2]string{"1p2498", "1p2500"}, [2]string{"1p2501", "3p2500"}, "", "", impl.ErrLimit},
		{[2]string{"1p2500", "1p2498"}, [2]string{"3p2500", "1p2501"}, "", "", impl.ErrLimit},
		{[2]string{"1p2498", "1p2500"}, [2]string{"3p2500", "1p2501"}, "", "", impl.ErrLimit},
		// Just a part of the result is too large.
		{[2]string{"1p2500", "1p2500"}, [2]string{"1p2500", "1p2500"}, "", "", impl.ErrLimit},
		{[2]string{"1p2500", "1p2500"}, [2]string{"1p2500", "-1p2500"}, "", "", impl.ErrLimit},
		{[2]string{"1p2500", "1p2499"}, [2]string{"1p2500", "1p2499"}, "3p4998", "1p5000", impl.ErrNone},
	})
	r := newRandom(78)
	forBinaryPairs(t, 79, func(a, b binary) {
		c, d := anyBinary(r), anyBinary(r)
		ab, cd, ad, cb := times(a, b), times(c, d), times(a, d), times(c, b)
		re, im := minus(ab, cd), plus(ad, cb)
		e, code := impl.MultiplyExacts(impl.Exact{Real: dyadicOf(a), Imag: dyadicOf(c)}, impl.Exact{Real: dyadicOf(b), Imag: dyadicOf(d)})
		checkExact(t, fmt.Sprintf("MultiplyExacts(%v %v, %v %v)", a, c, b, d), e, code, re, im, worstCode(ab, cd, ad, cb, re, im))
	})
}

func TestSquareOfExact(t *testing.T) {
	checkDyadicsCases(t, "SquareOfExact", squareOf, []dyadicsCase{
		{"3p0", "-5p0", "17p1", impl.ErrNone},
		{"3p0", "1p2", "25p0", impl.ErrNone},
		{"0p0", "0p0", "0p0", impl.ErrNone},
		{"0p0", "-3p-2", "9p-4", impl.ErrNone},
		{"-3p-2", "0p0", "9p-4", impl.ErrNone},
		{"1p2500", "0p0", "1p5000", impl.ErrNone},
		{"0p0", "1p-2500", "1p-5000", impl.ErrNone},
		{"1p2400", "1p0", "", impl.ErrLimit},
		{"1p2501", "0p0", "", impl.ErrLimit},
		{"0p0", "1p-2501", "", impl.ErrLimit},
		{"2^2400+1p0", "0p0", "", impl.ErrLimit},
		// Just a square is too large.
		{"1p2501", "1p2500", "", impl.ErrLimit},
		{"1p2500", "1p2501", "", impl.ErrLimit},
		// Just the sum is too large.
		{"1p2500", "1p2500", "", impl.ErrLimit},
	})
	most := number("2^2400-1p0")
	d, code := squareOf(dyadicOf(most), impl.Dyadic{})
	checkDyadic(t, "SquareOfExact with a square of most limbs", d, code, times(most, most), impl.ErrNone)
	forBinaryPairs(t, 80, func(a, b binary) {
		re, im := times(a, a), times(b, b)
		want := plus(re, im)
		d, code := squareOf(dyadicOf(a), dyadicOf(b))
		checkDyadic(t, fmt.Sprintf("SquareOfExact(%v, %v)", a, b), d, code, want, worstCode(re, im, want))
	})
}

func squareOf(c, d impl.Dyadic) (impl.Dyadic, int64) {
	return impl.SquareOfExact(impl.Exact{Real: c, Imag: d})
}

func TestDyadicText(t *testing.T) {
	for text, x := range map[string]float64{
		"3p-2": 0.75, "0p0": 0, "-1p10": -1024, "1p0": 1, "-13421773p-27": float64(float32(-0.1)),
		"9007199254740991p971": huge, "-1p-1074": -tiny,
	} {
		if got, code := impl.DyadicText(dyadicOf(valueOf(x))); got != text || code != impl.ErrNone {
			t.Errorf("DyadicText of the value of %g = %q, %d", x, got, code)
		}
	}
	forBinaries(t, 81, func(b binary) {
		want := fmt.Sprintf("%dp%d", b.whole, b.exponent)
		if text, code := impl.DyadicText(dyadicOf(b)); text != want || code != impl.ErrNone {
			t.Errorf("DyadicText(%v) = %q, %d", b, text, code)
		}
	})
}

func TestParseDyadic(t *testing.T) {
	for _, text := range []string{
		"0p0", "1p0", "-1p0", "3p-2", "-3p2", "1p5000", "1p-5000", "-1p5000", "-1p-5000", "101p10", "100000000000001p100",
	} {
		d, code := impl.ParseDyadic(text)
		checkDyadic(t, fmt.Sprintf("ParseDyadic(%q)", text), d, code, number(text), impl.ErrNone)
	}
	greatest := integer("2^4800-1").String()
	d, code := impl.ParseDyadic(greatest + "p5000")
	checkDyadic(t, "ParseDyadic of the greatest number", d, code, number("2^4800-1p5000"), impl.ErrNone)
	digits := strings.Repeat("123456789", 200)
	for _, text := range []string{
		"", "p", "1", "-1", "0", "p0", "1p", "0p", "-p1", "1p-", "1pp1", "1p1p1", "1p1p", "p1p1",
		// Superfluous zeros, and signs.
		"00p0", "01p0", "03p1", "-03p1", "3p00", "3p01", "3p-01", "0p00", "-0p0", "0p-0", "3p-0", "+3p1", "3p+1",
		"--3p1", "3p--1", "3-p1", "3p1-", "-+3p1",
		// Even whole numbers, and 0 with another exponent.
		"2p0", "-2p0", "4p-1", "10p7", "16777216p0", "0p1", "0p-1", "0p5000", "100000000000000000000p0",
		integer("2^4799+0").String() + "p0",
		// Other bytes.
		"3P1", "3e1", "3p1 ", " 3p1", "3 p1", "3p 1", "3p1\n", "3p1.0", "3.0p1", "0x3p1", "3p0x1", "1_1p1", "3p1\x00",
		"\u0663p1", "3p\u0661", "3\xffp1", "ap1", "3pa", "inf", "NaN", "1p1,", ";1p1", "1,1",
		// Numbers that are too large.
		"1p5001", "1p-5001", "-3p5001", "1p10000", "1p9223372036854775807", "1p-9223372036854775808",
		"1p9223372036854775808", "1p18446744073709551616", "1p18446744073709551617", "1p-18446744073709551615",
		integer("2^4800+1").String() + "p0", "-" + integer("2^4800+1").String() + "p0", digits + "p0", "1p" + digits,
		"1p-" + digits, strings.Repeat("1", 100000) + "p0", "1p" + strings.Repeat("1", 100000), digits, digits + "p",
	} {
		d, code := impl.ParseDyadic(text)
		checkDyadic(t, fmt.Sprintf("ParseDyadic(%.50q)", text), d, code, binary{}, impl.ErrSyntax)
	}
}
