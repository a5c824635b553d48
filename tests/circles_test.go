package tests

import (
	"fmt"
	"math"
	"testing"

	"loop.example/g01156/impl"
)

// tooLarge stands for a bound that there is not, because a number is not finite.
const tooLarge = -1

type circleCase struct {
	p                   []complex128
	greatest, sum, both float64
}

// circleCases have bounds that are known.
func circleCases() []circleCase {
	minus, most := complex(negative, negative), complex(huge, 0)
	return []circleCase{
		{[]complex128{2, 0, 1}, 3, 2, 2},
		{[]complex128{2, 4, 1}, 5, 6, 5},
		{[]complex128{6, 4, 2}, 4, 5, 4},
		{[]complex128{1, 1, 1}, 2, 2, 2},
		{[]complex128{1, 1, 1, 1}, 2, 3, 2},
		// Degrees 1 and 12.
		{[]complex128{1, 1}, 2, 1, 1},
		{[]complex128{3, 1}, 4, 3, 3},
		{[]complex128{3, -0.5}, 7, 6, 6},
		{[]complex128{0, 1}, 1, 1, 1},
		{[]complex128{minus, 1}, 1, 1, 1},
		{ones(13), 2, 12, 2},
		{with(ones(13), 0, -7), 8, 18, 8},
		{with(ones(13), 11, 7i), 8, 18, 8},
		{with(make([]complex128, 13), 12, 5), 1, 1, 1},
		// Sizes are sums of both parts.
		{[]complex128{3 + 4i, 1}, 8, 7, 7},
		{[]complex128{-3 - 4i, 1i}, 8, 7, 7},
		{[]complex128{1 + 3i, 0, 1 + 1i}, 4, 3, 3},
		// Sums of sizes that are less than 1, 1, and more.
		{[]complex128{1, 2, 4}, 1.5, 1, 1},
		{[]complex128{0.25, 0.25i, 1}, 1.25, 1, 1},
		{[]complex128{0.5, 0.5, 1}, 1.5, 1, 1},
		{[]complex128{0.5, 0.5 + 0x1p-52, 1}, 1.5 + 0x1p-52, 1 + 0x1p-52, 1 + 0x1p-52},
		{[]complex128{0.5, 0.5 + 0x1p-53, 1}, 1.5, 1, 1},
		{[]complex128{1 - 0x1p-53, 1}, 2, 1, 1},
		{[]complex128{complex(tiny, 0), 1}, 1, 1, 1},
		// Sums are added up in ascending order, one size after the other.
		{[]complex128{0x1p53, 1, 1, 1}, 0x1p53, 0x1p53, 0x1p53},
		{[]complex128{1, 1, 0x1p53, 1}, 0x1p53, 0x1p53 + 2, 0x1p53},
		{[]complex128{1, 0x1p53, 1, 1}, 0x1p53, 0x1p53, 0x1p53},
		{[]complex128{1, 0x1p53 + 1i, 1}, 0x1p53, 0x1p53, 0x1p53},
		{[]complex128{0x1p53 + 2, 1}, 0x1p53 + 4, 0x1p53 + 2, 0x1p53 + 2},
		// Largest bounds; just the sum bound is not finite.
		{[]complex128{most, 1}, huge, huge, huge},
		{[]complex128{most, 0x1p969, 1}, huge, huge, huge},
		{[]complex128{most, 0x1p970, 1}, huge, tooLarge, tooLarge},
		{[]complex128{most, most, 1}, huge, tooLarge, tooLarge},
		{[]complex128{0x1p1023, 0x1p1022, 1}, 0x1p1023, 0x1.8p1023, 0x1p1023},
		{[]complex128{0x1p1023, -0x1p1023, 1}, 0x1p1023, tooLarge, tooLarge},
		{[]complex128{0x1p1023i, 0, 0, 0x1p1023, 1}, 0x1p1023, tooLarge, tooLarge},
		// Sizes that are not finite.
		{[]complex128{complex(0x1p1023, 0x1p1023), 1}, tooLarge, tooLarge, tooLarge},
		{[]complex128{1, complex(huge, -huge), 1, 1}, tooLarge, tooLarge, tooLarge},
		{[]complex128{complex(0x1p1023, 0x1p1022), 1}, 0x1.8p1023, 0x1.8p1023, 0x1.8p1023},
		// Quotients that are not finite, the first one, the last one, or one between.
		{[]complex128{1, complex(tiny, 0)}, tooLarge, tooLarge, tooLarge},
		{[]complex128{1e200, 1e-200}, tooLarge, tooLarge, tooLarge},
		{[]complex128{1i, 0, 0, complex(0, tiny)}, tooLarge, tooLarge, tooLarge},
		{[]complex128{0, 0, 1e200i, 1e-200}, tooLarge, tooLarge, tooLarge},
		{[]complex128{0, 1e200, 0, 1e-200}, tooLarge, tooLarge, tooLarge},
		// What is used within a quotient is not finite: 0, or nothing, comes of it.
		{[]complex128{1 + 1i, complex(huge, huge)}, 1, 1, 1},
		{[]complex128{complex(huge, huge), complex(huge, huge)}, tooLarge, tooLarge, tooLarge},
		{[]complex128{complex(huge, huge), 2 + 2i}, tooLarge, tooLarge, tooLarge},
	}
}

func checkCircle(t *testing.T, name string, f func([]complex128) (float64, int64), p []complex128, want float64) {
	t.Helper()
	wantCode := int64(impl.ErrNone)
	if want == tooLarge {
		wantCode = impl.ErrLimit
	}
	bound, code := f(p)
	checkFloat(t, fmt.Sprintf("%s(%v)", name, p), bound, code, want, wantCode)
}

// checkCircled compares a function with what the document writes, operation by operation.
func checkCircled(t *testing.T, seed uint64, name string, f, wanted func([]complex128) (float64, int64)) {
	t.Helper()
	forCircled(t, seed, func(p []complex128) {
		bound, code := f(p)
		want, wantCode := wanted(p)
		checkFloat(t, fmt.Sprintf("%s(%v)", name, p), bound, code, want, wantCode)
	})
}

func TestGreatestBound(t *testing.T) {
	for _, c := range circleCases() {
		checkCircle(t, "GreatestBound", impl.GreatestBound, c.p, c.greatest)
	}
	checkCircled(t, 201, "GreatestBound", impl.GreatestBound, greatestBoundByParts)
}

func TestSumBound(t *testing.T) {
	for _, c := range circleCases() {
		checkCircle(t, "SumBound", impl.SumBound, c.p, c.sum)
	}
	checkCircled(t, 202, "SumBound", impl.SumBound, sumBoundByParts)
}

func TestRootBound(t *testing.T) {
	for _, c := range circleCases() {
		checkCircle(t, "RootBound", impl.RootBound, c.p, c.both)
	}
	checkCircled(t, 203, "RootBound", impl.RootBound, rootBoundByParts)
}

func TestInnerBound(t *testing.T) {
	most, least := complex(huge, 0), complex(tiny, 0)
	for _, c := range []struct {
		p    []complex128
		want float64
		code int64
	}{
		{[]complex128{2, 0, 1}, 1, impl.ErrNone},
		{[]complex128{1, 0, 2}, 0.5, impl.ErrNone},
		{[]complex128{1, 0, 4}, 0.25, impl.ErrNone},
		{[]complex128{2, 4, 1}, 0.4, impl.ErrNone},
		// Degrees 1 and 12.
		{[]complex128{1, 1}, 1, impl.ErrNone},
		{[]complex128{1, 3}, 1.0 / 3, impl.ErrNone},
		{[]complex128{-1, 3i}, 1.0 / 3, impl.ErrNone},
		{[]complex128{3, 1}, 1, impl.ErrNone},
		{[]complex128{1, 3 + 4i}, 1.0 / 7, impl.ErrNone},
		{ones(13), 0.5, impl.ErrNone},
		{with(ones(13), 0, 0.125), 1.0 / 9, impl.ErrNone},
		// The sum begins with the quotient of a(n).
		{[]complex128{1, 1, 1, 0x1p53}, 0x1p-53, impl.ErrNone},
		{[]complex128{0.25, 0.25, 0.25, 0.25}, 0.5, impl.ErrNone},
		{[]complex128{1, 0.75 + 0x1p-51, 0.5}, 1 / (1.25 + 0x1p-51), impl.ErrNone},
		// a(0) is 0, also with a part of -0 or beside quotients that are not finite.
		{[]complex128{0, 1}, 0, impl.ErrState},
		{[]complex128{0, 0, 1}, 0, impl.ErrState},
		{[]complex128{complex(negative, 0), 2, 1}, 0, impl.ErrState},
		{[]complex128{complex(0, negative), 2, 1}, 0, impl.ErrState},
		{[]complex128{complex(negative, negative), 1}, 0, impl.ErrState},
		{with(ones(13), 0, 0), 0, impl.ErrState},
		{[]complex128{0, 1, least}, 0, impl.ErrState},
		{[]complex128{complex(0, negative), most, most, 1}, 0, impl.ErrState},
		// One part of a(0) is enough.
		{[]complex128{complex(negative, tiny), complex(0, tiny)}, 1, impl.ErrNone},
		{[]complex128{complex(-1, negative), 4}, 0.25, impl.ErrNone},
		// Largest bounds, and bounds, quotients and sizes that are not finite.
		{[]complex128{1, most}, 0x1p-1024, impl.ErrNone},
		{[]complex128{most, 1}, 1, impl.ErrNone},
		{[]complex128{1, most, most}, 0, impl.ErrLimit},
		{[]complex128{1, 0x1p1023, 0, 0x1p1023}, 0, impl.ErrLimit},
		{[]complex128{1, 0x1p1022, 0, 0x1p1023}, 0x1p-1023, impl.ErrNone},
		{[]complex128{1e-300, 1, 1e10}, 0, impl.ErrLimit},
		{[]complex128{least, 1}, 0, impl.ErrLimit},
		{[]complex128{1, complex(huge, huge)}, 0, impl.ErrLimit},
		{[]complex128{complex(huge, huge), 1, 1 + 1i}, 1, impl.ErrNone},
	} {
		bound, code := impl.InnerBound(c.p)
		checkFloat(t, fmt.Sprintf("InnerBound(%v)", c.p), bound, code, c.want, c.code)
	}
	checkCircled(t, 204, "InnerBound", impl.InnerBound, innerBoundByParts)
}

func TestCentreOfRoots(t *testing.T) {
	diagonal := complex(0x1p1022, 0x1p1022)
	for _, c := range []struct {
		p    []complex128
		want complex128
		code int64
	}{
		{[]complex128{2, 4, 1}, -2, impl.ErrNone},
		{[]complex128{2, -3, 1}, complex(1.5, negative), impl.ErrNone},
		{[]complex128{5, 1, 1, -6, 2}, complex(0.75, negative), impl.ErrNone},
		// Degrees 1 and 12.
		{[]complex128{3, 1}, -3, impl.ErrNone},
		{[]complex128{-3, 1}, complex(3, negative), impl.ErrNone},
		{[]complex128{1i, 1}, complex(negative, -1), impl.ErrNone},
		{ones(13), -1.0 / 12, impl.ErrNone},
		{with(ones(13), 11, -6), complex(0.5, negative), impl.ErrNone},
		// Signs of 0 in both parts, from the opposite of a(n - 1) ..
		{[]complex128{1, 0, 1}, complex(negative, 0), impl.ErrNone},
		{[]complex128{1, complex(0, negative), 1}, 0, impl.ErrNone},
		{[]complex128{1, complex(negative, 0), 1}, complex(0, negative), impl.ErrNone},
		{[]complex128{1, complex(negative, negative), 1}, 0, impl.ErrNone},
		// .. and from the product of n, as a complex number, and a(n).
		{[]complex128{1, -4, complex(1, negative)}, complex(2, negative), impl.ErrNone},
		{[]complex128{1, 4i, 2i}, -1, impl.ErrNone},
		{[]complex128{1, -4, complex(negative, 1)}, complex(negative, -2), impl.ErrNone},
		// The other coefficients do not matter.
		{[]complex128{complex(huge, huge), 4, 1}, -2, impl.ErrNone},
		{[]complex128{1, complex(huge, huge), 6, 1}, -2, impl.ErrNone},
		// Products that are not finite, although the centre could be -1/2, 0, or -1.
		{[]complex128{1, 1e308, 1e308}, 0, impl.ErrLimit},
		{[]complex128{1, 0, 1e308}, 0, impl.ErrLimit},
		{[]complex128{1, 0, -3e308 / 4, 0, -1e308i}, 0, impl.ErrLimit},
		{[]complex128{1, 1, 0x1p1023}, 0, impl.ErrLimit},
		{[]complex128{1, 1, 0x1p1022}, -0x1p-1023, impl.ErrNone},
		{[]complex128{complex(huge, 0), complex(huge, 0)}, -1, impl.ErrNone},
		{[]complex128{complex(huge, 0), 1}, complex(-huge, 0), impl.ErrNone},
		// Quotients that are not finite.
		{[]complex128{0, 1, complex(tiny, 0)}, 0, impl.ErrLimit},
		{[]complex128{0, 1e200i, 1e-200}, 0, impl.ErrLimit},
		{[]complex128{complex(huge, huge), 2 + 2i}, 0, impl.ErrLimit},
		// What is used within a quotient is not finite: 0, or nothing, comes of it.
		{[]complex128{1, diagonal, diagonal}, complex(negative, 0), impl.ErrNone},
		{[]complex128{complex(huge, huge), complex(huge, huge)}, 0, impl.ErrLimit},
	} {
		centre, code := impl.CentreOfRoots(c.p)
		checkWide(t, fmt.Sprintf("CentreOfRoots(%v)", c.p), centre, code, c.want, c.code)
	}
	forCircled(t, 205, func(p []complex128) {
		centre, code := impl.CentreOfRoots(p)
		want, wantCode := centreByParts(p)
		checkWide(t, fmt.Sprintf("CentreOfRoots(%v)", p), centre, code, want, wantCode)
	})
}

func TestTurnedPower(t *testing.T) {
	for k := range int64(101) {
		power, code := impl.TurnedPower(k)
		checkWide(t, fmt.Sprintf("TurnedPower(%d)", k), power, code, turnedByParts(int(k)), impl.ErrNone)
	}
	for k, want := range map[int64]complex128{0: 1, 1: complex(0.8, 0.6)} {
		power, code := impl.TurnedPower(k)
		checkWide(t, fmt.Sprintf("TurnedPower(%d)", k), power, code, want, impl.ErrNone)
	}
	for _, k := range []int64{-1, -2, -100, 101, 102, 1000, 1 << 32, 1<<32 + 1, math.MaxInt64, math.MinInt64} {
		power, code := impl.TurnedPower(k)
		checkWide(t, fmt.Sprintf("TurnedPower(%d)", k), power, code, 0, impl.ErrRange)
	}
}

func TestStartingPoints(t *testing.T) {
	most := complex(huge, 0)
	for _, c := range []struct {
		p, want []complex128
		code    int64
	}{
		{[]complex128{2, 0, 1}, []complex128{2, 1.6 + 1.2i}, impl.ErrNone},
		{[]complex128{2, 4, 1}, []complex128{3, 2 + 3i}, impl.ErrNone},
		// Degree 1, and signs of 0 in both parts.
		{[]complex128{3, 1}, []complex128{0}, impl.ErrNone},
		{[]complex128{-3, 1}, []complex128{6}, impl.ErrNone},
		{[]complex128{1i, 1}, []complex128{1 - 1i}, impl.ErrNone},
		{[]complex128{1, -1}, []complex128{2}, impl.ErrNone},
		{[]complex128{0, 1}, []complex128{1}, impl.ErrNone},
		{[]complex128{complex(negative, negative), 1}, []complex128{1}, impl.ErrNone},
		{[]complex128{complex(negative, 0), 1}, []complex128{1}, impl.ErrNone},
		{[]complex128{0, 0, 1}, []complex128{1, complex(0.8, 0.6)}, impl.ErrNone},
		{[]complex128{0, -8, 5}, []complex128{complex(sumOf(0.8, 1.6), 0), complex(sumOf(0.8, productOf(0.8, 1.6)), productOf(0.6, 1.6))}, impl.ErrNone},
		// Largest points, and points that are not finite.
		{[]complex128{most, 1}, []complex128{0}, impl.ErrNone},
		{[]complex128{-most, 1}, nil, impl.ErrLimit},
		{[]complex128{0x1p1022, -0x1p1021, 0, 1}, []complex128{0x1p1022, complex(0.8*0x1p1022, 0.6*0x1p1022), turnedByParts(2) * 0x1p1022}, impl.ErrNone},
		{[]complex128{0, -most, 1}, nil, impl.ErrLimit},
		{[]complex128{complex(0, -huge), 1}, []complex128{complex(huge, huge)}, impl.ErrNone},
		// Bounds, centres and products that are not finite, although the points could be.
		{[]complex128{most, most, 1}, nil, impl.ErrLimit},
		{[]complex128{complex(huge, huge), 4, 1}, nil, impl.ErrLimit},
		{[]complex128{1, 1e308, 1e308}, nil, impl.ErrLimit},
		{[]complex128{1, 0, 1e308}, nil, impl.ErrLimit},
		{[]complex128{1, complex(tiny, 0)}, nil, impl.ErrLimit},
		{[]complex128{1, 0, complex(tiny, 0)}, nil, impl.ErrLimit},
	} {
		list, code := impl.StartingPoints(c.p)
		checkCoefficients(t, fmt.Sprintf("StartingPoints(%v)", c.p), list, code, c.want, c.code)
	}
	check := func(p []complex128) {
		list, code := impl.StartingPoints(p)
		want, wantCode := startingPointsByParts(p)
		checkCoefficients(t, fmt.Sprintf("StartingPoints(%v)", p), list, code, want, wantCode)
	}
	for length := 2; length <= 13; length++ {
		check(ones(length))
		check(with(make([]complex128, length), length-1, 1i))
	}
	for _, c := range circleCases() {
		check(c.p)
	}
	forCircled(t, 206, check)
}
