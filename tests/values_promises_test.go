package tests

import (
	"fmt"
	"math/big"
	"math/rand/v2"
	"testing"

	"loop.example/g01156/impl"
)

// checkErrorOfValue compares the error of the value with its bound, and returns whether there are both.
func checkErrorOfValue(t *testing.T, p []complex128, z complex128) bool {
	t.Helper()
	value, bound, code := impl.ValueWithBound(p, z)
	if code != impl.ErrNone {
		return false
	}
	if same, code := impl.ValueOf(p, z); !sameWide(same, value) || code != impl.ErrNone {
		t.Errorf("ValueOf(%v, %v) = %v, %d, but with a bound it is %v", p, z, same, code, value)
	}
	off, code := impl.ErrorOfValue(p, z)
	if code != impl.ErrNone {
		return false
	}
	most, code := impl.DyadicOf(bound)
	if code != impl.ErrNone || exactOrder(t, off, most) > 0 {
		t.Errorf("the value %v of %v at %v is off by %v, and its bound is %g", value, p, z, binaryOf(off), bound)
	}
	return true
}

func TestPromise5ErrorsAreNotGreaterThanTheirBounds(t *testing.T) {
	kinds := map[string]func(r *rand.Rand) ([]complex128, complex128){
		"any": anyPointOf, "beside a root": besideRoot, "cancelling": cancelling,
		"far apart": func(r *rand.Rand) ([]complex128, complex128) {
			return spreadNumbers(r, 2+r.IntN(8), -200, 200), spreadNumbers(r, 1, -60, 60)[0]
		},
		"small": func(r *rand.Rand) ([]complex128, complex128) {
			return spreadNumbers(r, 2+r.IntN(12), -1074, -1000), spreadNumbers(r, 1, -40, 4)[0]
		},
		"small, and far apart": func(r *rand.Rand) ([]complex128, complex128) {
			return spreadNumbers(r, 2+r.IntN(3), -1074, 0), spreadNumbers(r, 1, -900, 0)[0]
		},
	}
	for kind, points := range kinds {
		r := newRandom(181)
		both := 0
		for range 3000 {
			if p, z := points(r); checkErrorOfValue(t, p, z) {
				both++
			}
			if t.Failed() {
				return
			}
		}
		if both < 1000 {
			t.Errorf("points that are %s: just %d errors and bounds", kind, both)
		}
	}
}

func TestPromise5TaylorExpansionsBeginWithValues(t *testing.T) {
	forPoints(t, 182, func(p []complex128, z complex128) {
		list, code := impl.TaylorOf(p, z)
		value, valueCode := impl.ValueOf(p, z)
		if code != impl.ErrNone {
			return
		}
		name := fmt.Sprintf("TaylorOf(%v, %v)", p, z)
		if len(list) != len(p) {
			t.Fatalf("%s = %v", name, list)
		}
		checkWide(t, name+", first number,", list[0], code, value, valueCode)
		checkWide(t, name+", last number,", list[len(p)-1], code, p[len(p)-1], impl.ErrNone)
	})
}

// A Taylor expansion of whole coefficients at a whole number is exact: it is the same polynomial.
func TestTaylorExpansionsOfWholeCoefficients(t *testing.T) {
	r := newRandom(183)
	for range 500 {
		p, z := smallMonic(r, 2+r.IntN(6)), differentRoots(r, 1)[0]
		list, code := impl.TaylorOf(p, z)
		if code != impl.ErrNone || !impl.IsPolynomial(list) {
			t.Fatalf("TaylorOf(%v, %v) = %v, %d", p, z, list, code)
		}
		back, code := impl.TaylorOf(list, -z)
		if same, _ := impl.EqualPolynomials(back, p); !same || code != impl.ErrNone {
			t.Fatalf("TaylorOf(%v, %v) = %v, and back it is %v, %d", p, z, list, back, code)
		}
	}
}

func TestPromise5ValuesAtExactRootsAreZero(t *testing.T) {
	r := newRandom(184)
	for range 300 {
		p := smallMonic(r, 2+r.IntN(6))
		roots := differentRoots(r, 1+r.IntN(4))
		factor, _ := impl.PolynomialOfRoots(roots)
		if r.IntN(4) > 0 {
			p, _ = impl.MultiplyParts(p, factor)
		} else {
			roots = nil
		}
		found := 0
		for _, z := range differentRoots(r, 25) {
			root, code := impl.IsExactRoot(p, z)
			value, valueCode := impl.ValueOf(p, z)
			if root != (value == 0) || code != impl.ErrNone || valueCode != impl.ErrNone {
				t.Fatalf("IsExactRoot(%v, %v) = %v, %d, but the value is %v, %d", p, z, root, code, value, valueCode)
			}
			nonzero, code := impl.IsSurelyNonzero(p, z)
			if nonzero == root || code != impl.ErrNone {
				t.Fatalf("IsSurelyNonzero(%v, %v) = %v, %d, but the value is %v", p, z, nonzero, code, value)
			}
			if root {
				found++
			}
		}
		if found < len(roots) {
			t.Fatalf("%v has %d exact roots, and is made from %v", p, found, roots)
		}
	}
}

func TestPromise5NumbersWithValuesSurelyNotZeroAreNoRoots(t *testing.T) {
	sure, roots := 0, 0
	check := func(p []complex128, z complex128) {
		nonzero, code := impl.IsSurelyNonzero(p, z)
		root, rootCode := impl.IsExactRoot(p, z)
		if code != impl.ErrNone || rootCode != impl.ErrNone {
			return
		}
		if nonzero && root {
			t.Errorf("%v has the exact root %v, and a value there that is surely not 0", p, z)
		}
		if nonzero {
			sure++
		}
		if root {
			roots++
		}
	}
	forPoints(t, 185, check)
	r := newRandom(186)
	for range 2000 {
		check(besideRoot(r))
		check(cancelling(r))
		// Roots of x^2 - z^2 and of (x - z)^2, all of whose coefficients are exact.
		z := complex(float64(r.Int64N(1<<26)), float64(r.Int64N(1<<26)))
		check([]complex128{-z * z, 0, 1}, z)
		check([]complex128{z * z, -2 * z, 1}, z)
	}
	if sure < 1000 || roots < 1000 {
		t.Errorf("just %d values are surely not 0, and %d numbers are roots", sure, roots)
	}
}

func TestPromise4NumbersAtTheEndOfDeflationsAreValues(t *testing.T) {
	forPoints(t, 187, func(p []complex128, z complex128) {
		_, number, code := impl.DeflateBy(p, z)
		value, valueCode := impl.ValueOf(p, z)
		checkWide(t, fmt.Sprintf("DeflateBy(%v, %v), number,", p, z), number, code, value, valueCode)
	})
}

// The sum of all coefficients times powers, as exact fractions, tells the exact value without
// Horner's way; and its difference from the value is the error.
func TestPromise14ErrorsAgreeWithExactValues(t *testing.T) {
	r := newRandom(188)
	for range 1000 {
		p, z := cancelling(r)
		if r.IntN(2) == 0 {
			p, z = mediumPolynomial(r), spreadNumbers(r, 1, -20, 10)[0]
		}
		sum, power := exactNumberOf(0), exactNumberOf(1)
		for _, c := range p {
			sum = sum.plus(exactNumberOf(c).times(power))
			power = power.times(exactNumberOf(z))
		}
		e, code := impl.ExactValueOf(p, z)
		if code != impl.ErrNone || fractionOf(e.Real).Cmp(sum.re) != 0 || fractionOf(e.Imag).Cmp(sum.im) != 0 {
			t.Fatalf("ExactValueOf(%v, %v) = %v, %d", p, z, e, code)
		}
		value, _ := impl.ValueOf(p, z)
		off := sum.minus(exactNumberOf(value))
		want := new(big.Rat).Add(new(big.Rat).Abs(off.re), new(big.Rat).Abs(off.im))
		d, code := impl.ErrorOfValue(p, z)
		if code != impl.ErrNone || fractionOf(d).Cmp(want) != 0 {
			t.Fatalf("ErrorOfValue(%v, %v) = %v, %d, want %v", p, z, binaryOf(d), code, want)
		}
	}
}

func fractionOf(d impl.Dyadic) *big.Rat {
	b := binaryOf(d)
	x := new(big.Rat).SetInt(b.whole)
	power := new(big.Rat).SetInt(powerOfTwo(max(b.exponent, -b.exponent)))
	if b.exponent < 0 {
		return x.Quo(x, power)
	}
	return x.Mul(x, power)
}

// The error is what chapter 3 makes of the exact value and of the value.
func TestPromise14ErrorsAreDifferencesOfExactNumbers(t *testing.T) {
	forPoints(t, 189, func(p []complex128, z complex128) {
		d, code := impl.ErrorOfValue(p, z)
		e, exactCode := impl.ExactValueOf(p, z)
		value, valueCode := impl.ValueOf(p, z)
		if exactCode != impl.ErrNone || valueCode != impl.ErrNone {
			checkDyadic(t, fmt.Sprintf("ErrorOfValue(%v, %v)", p, z), d, code, binary{}, impl.ErrLimit)
			return
		}
		rounded, _ := impl.ExactOf(value)
		re, _ := impl.SubtractDyadics(e.Real, rounded.Real)
		im, _ := impl.SubtractDyadics(e.Imag, rounded.Imag)
		want := plus(absoluteOf(binaryOf(re)), absoluteOf(binaryOf(im)))
		checkDyadic(t, fmt.Sprintf("ErrorOfValue(%v, %v)", p, z), d, code, want, dyadicCode(want))
	})
}

// At the roots of a polynomial of whole roots the exact value is 0, and so is the error; beside them
// the error is not greater than the bound.
func TestPromise14ErrorsAtKnownRoots(t *testing.T) {
	r := newRandom(190)
	for range 500 {
		roots := differentRoots(r, 1+r.IntN(8))
		p, _ := impl.PolynomialOfRoots(roots)
		for _, z := range roots {
			d, code := impl.ErrorOfValue(p, z)
			checkDyadic(t, fmt.Sprintf("ErrorOfValue(%v, %v)", p, z), d, code, binary{new(big.Int), 0}, impl.ErrNone)
			checkBool(t, fmt.Sprintf("IsExactRoot(%v, %v)", p, z), impl.IsExactRoot, p, z, true, impl.ErrNone)
			if !checkErrorOfValue(t, p, z+0x1p-30) {
				t.Errorf("%v has no error at %v", p, z+0x1p-30)
			}
		}
	}
}

func TestWidthGapsAreDifferencesOfBothValues(t *testing.T) {
	forNarrowPoints(t, 191, func(p []complex64, z complex64) {
		gap, code := impl.WidthGap(p, z)
		narrow, narrowCode := impl.NarrowValueOf(p, z)
		wide, wideCode := impl.ValueOf(wideList(p), complex128(z))
		if narrowCode != impl.ErrNone || wideCode != impl.ErrNone {
			checkFloat(t, fmt.Sprintf("WidthGap(%v, %v)", p, z), gap, code, 0, impl.ErrLimit)
			return
		}
		difference, _ := impl.SubtractWide(complex128(narrow), wide)
		want, wantCode := impl.LargerPart(difference)
		checkFloat(t, fmt.Sprintf("WidthGap(%v, %v)", p, z), gap, code, want, wantCode)
	})
}
