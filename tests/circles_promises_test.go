package tests

import (
	"fmt"
	"math"
	"math/rand/v2"
	"slices"
	"testing"

	"loop.example/g01156/impl"
)

func TestPromise6TheBoundIsTheLesserOne(t *testing.T) {
	greatestIsLess, sumIsLess, none := 0, 0, 0
	forCircled(t, 221, func(p []complex128) {
		bound, code := impl.RootBound(p)
		greatest, greatestCode := impl.GreatestBound(p)
		sum, sumCode := impl.SumBound(p)
		name := fmt.Sprintf("RootBound(%v)", p)
		if greatestCode != impl.ErrNone || sumCode != impl.ErrNone {
			checkFloat(t, name, bound, code, 0, impl.ErrLimit)
			none++
			return
		}
		if greatest < sum {
			greatestIsLess++
		}
		if sum < greatest {
			sumIsLess++
		}
		checkFloat(t, name, bound, code, min(greatest, sum), impl.ErrNone)
		if sum < 1 || greatest < 1 {
			t.Errorf("%v has the bounds %g and %g", p, greatest, sum)
		}
	})
	if greatestIsLess < 200 || sumIsLess < 200 || none < 200 {
		t.Errorf("just %d greatest bounds and %d sum bounds are less, and %d are not there", greatestIsLess, sumIsLess, none)
	}
}

func TestPromise6TheInnerBoundIsTheInverseOfTheOtherOrder(t *testing.T) {
	both := 0
	forCircled(t, 222, func(p []complex128) {
		inner, code := impl.InnerBound(p)
		name := fmt.Sprintf("InnerBound(%v)", p)
		if p[0] == 0 {
			checkFloat(t, name, inner, code, 0, impl.ErrState)
			return
		}
		bound, wantCode := impl.RootBound(reversedList(p))
		if bound != 0 {
			both++
		}
		checkFloat(t, name, inner, code, quotientOf(1, bound), wantCode)
	})
	if both < 1000 {
		t.Errorf("just %d polynomials have inner bounds", both)
	}
}

// exactSize is the size of a number without rounding.
func exactSize(z complex128) binary {
	return plus(absoluteOf(valueOf(real(z))), absoluteOf(valueOf(imag(z))))
}

func TestPromise6StartingPointsAreNearTheCentre(t *testing.T) {
	found := 0
	forCircled(t, 223, func(p []complex128) {
		list, code := impl.StartingPoints(p)
		if code != impl.ErrNone {
			return
		}
		found++
		centre, centreCode := impl.CentreOfRoots(p)
		bound, boundCode := impl.RootBound(p)
		if len(list) != len(p)-1 || centreCode != impl.ErrNone || boundCode != impl.ErrNone {
			t.Fatalf("StartingPoints(%v) = %v, and codes are %d and %d", p, list, centreCode, boundCode)
		}
		most := plus(exactSize(centre), times(valueOf(bound), valueOf(1.5)))
		for _, z := range list {
			if compare(exactSize(z), most) > 0 {
				t.Errorf("%v has the starting point %v, the centre %v and the bound %g", p, z, centre, bound)
			}
		}
	})
	if found < 1000 {
		t.Errorf("just %d polynomials have starting points", found)
	}
}

// Without rounding, the starting points have the absolute value of the bound around the centre, and
// are different.
func TestStartingPointsLieOnACircle(t *testing.T) {
	r := newRandom(224)
	for range 2000 {
		p := mediumPolynomial(r)
		list, code := impl.StartingPoints(p)
		centre, _ := impl.CentreOfRoots(p)
		bound, _ := impl.RootBound(p)
		for k, z := range list {
			off := z - centre
			if math.Abs(math.Hypot(real(off), imag(off))-bound) > 1e-12*bound || slices.Contains(list[:k], z) {
				t.Fatalf("StartingPoints(%v) = %v, %d, around %v with the bound %g", p, list, code, centre, bound)
			}
		}
	}
}

func TestPromise6PowersHaveSizesNearOne(t *testing.T) {
	for k := range int64(101) {
		power, code := impl.TurnedPower(k)
		size, sizeCode := impl.SizeOf(power)
		if size < 0.999 || size > 1.415 || code != impl.ErrNone || sizeCode != impl.ErrNone {
			t.Errorf("TurnedPower(%d) = %v, %d, of size %g", k, power, code, size)
		}
	}
}

func TestPromise6NarrowPointsComeBackFromWideOnes(t *testing.T) {
	r := newRandom(225)
	check := func(points []complex64) {
		t.Helper()
		wide, code := impl.WidePoints(points)
		back, backCode := impl.NarrowPoints(wide)
		if !slices.EqualFunc(back, points, sameNarrow) || code != impl.ErrNone || backCode != impl.ErrNone {
			t.Fatalf("%v become %v, %d, and then %v, %d", points, wide, code, back, backCode)
		}
		again, code := impl.WidePoints(back)
		checkCoefficients(t, fmt.Sprintf("WidePoints(%v)", back), again, code, wide, impl.ErrNone)
	}
	for range 1000 {
		var points []complex64
		for range r.IntN(101) {
			points = append(points, anyNarrow(r))
		}
		check(points)
	}
	check([]complex64{complex(hugeNarrow, -tinyNarrow), complex(negativeNarrow, 0), complex(0, negativeNarrow)})
}

// checkHolds tells whether the bounds of a polynomial hold its roots.
func checkHolds(t *testing.T, p, roots []complex128) {
	t.Helper()
	bound, code := impl.RootBound(p)
	if code != impl.ErrNone {
		t.Fatalf("RootBound(%v): code %d", p, code)
	}
	inner, innerCode := impl.InnerBound(p)
	for _, z := range roots {
		absolute := math.Hypot(real(z), imag(z))
		if absolute > 1.0000001*bound {
			t.Fatalf("%v has the root %v, and the bound %g", p, z, bound)
		}
		if innerCode == impl.ErrNone && absolute <= 0.9999999*inner {
			t.Fatalf("%v has the root %v, and the inner bound %g", p, z, inner)
		}
	}
	if (innerCode == impl.ErrState) != slices.Contains(roots, 0) {
		t.Fatalf("InnerBound(%v): code %d, and the roots are %v", p, innerCode, roots)
	}
}

// scaledRoots gives the polynomial of roots that are multiplied by 2^k, and these.
func scaledRoots(roots []complex128, k int) ([]complex128, []complex128) {
	var list []complex128
	for _, z := range roots {
		list = append(list, z*complex(math.Ldexp(1, k), 0))
	}
	p, _ := impl.PolynomialOfRoots(list)
	return p, list
}

func TestPromise6CirclesHoldAllRoots(t *testing.T) {
	r := newRandom(226)
	// All coefficients are exact.
	for range 2000 {
		p, roots := scaledRoots(differentRoots(r, 1+r.IntN(8)), r.IntN(21)-10)
		checkHolds(t, p, roots)
		multiple := slices.Clone(p)
		for n := range multiple {
			multiple[n] *= 3 - 4i
		}
		checkHolds(t, multiple, roots)
	}
	for range 500 {
		root := differentRoots(r, 1)[0]
		p, roots := scaledRoots(slices.Repeat([]complex128{root}, 1+r.IntN(5)), 0)
		checkHolds(t, p, roots)
	}
	// Bounds that roots reach: those of x - 7, 7 x - 1, x^n - 1, and n - x - x^2 - .. - x^n.
	checkHolds(t, []complex128{-7, 1}, []complex128{7})
	checkHolds(t, []complex128{-1, 7}, []complex128{1.0 / 7})
	for n := 1; n <= 12; n++ {
		checkHolds(t, with(with(make([]complex128, n+1), n, 1), 0, -1), []complex128{1})
		checkHolds(t, with(timesNumber(ones(n+1), -1), 0, complex(float64(n), 0)), []complex128{1})
	}
}

func timesNumber(list []complex128, c complex128) []complex128 {
	var products []complex128
	for _, z := range list {
		products = append(products, z*c)
	}
	return products
}

// Points that the bound leaves out have values that are not 0, as far as these can be told.
func TestNumbersBeyondTheBoundsAreNoRoots(t *testing.T) {
	r := newRandom(227)
	for range 1000 {
		p := mediumPolynomial(r)
		bound, _ := impl.RootBound(p)
		inner, _ := impl.InnerBound(p)
		for _, size := range []float64{1.0000001 * bound, 2 * bound, 0.9999999 * inner, inner / 2} {
			z := turnedBy(r, size)
			if is, code := impl.IsExactRoot(p, z); is || code != impl.ErrNone {
				t.Fatalf("%v has the root %v, and the bounds %g and %g", p, z, bound, inner)
			}
			if is, code := impl.IsSurelyNonzero(p, z); !is || code != impl.ErrNone {
				t.Fatalf("%v has no sure value at %v, and the bounds %g and %g", p, z, bound, inner)
			}
		}
	}
}

// turnedBy gives a number of a told absolute value.
func turnedBy(r *rand.Rand, absolute float64) complex128 {
	sine, cosine := math.Sincos(r.Float64() * 2 * math.Pi)
	return complex(absolute*cosine, absolute*sine)
}
