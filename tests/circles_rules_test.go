package tests

import (
	"fmt"
	"math"
	"slices"
	"testing"

	"loop.example/g01156/impl"
)

// circlesFunction is a function of chapter 6 of a polynomial. It returns whether all results are zero
// values, and the code.
type circlesFunction func(p []complex128) (bool, int64)

func circleFloat(f func([]complex128) (float64, int64)) circlesFunction {
	return func(p []complex128) (bool, int64) {
		x, code := f(p)
		return sameFloat(x, 0), code
	}
}

func circlesFunctions() map[string]circlesFunction {
	return map[string]circlesFunction{
		"GreatestBound": circleFloat(impl.GreatestBound),
		"SumBound":      circleFloat(impl.SumBound),
		"RootBound":     circleFloat(impl.RootBound),
		"InnerBound":    circleFloat(impl.InnerBound),
		"CentreOfRoots": func(p []complex128) (bool, int64) {
			z, code := impl.CentreOfRoots(p)
			return sameWide(z, 0), code
		},
		"StartingPoints": func(p []complex128) (bool, int64) {
			list, code := impl.StartingPoints(p)
			return len(list) == 0, code
		},
	}
}

func TestCirclesAreThoseOfPolynomials(t *testing.T) {
	bad := badPolynomials()
	for _, z := range notFinites {
		// Beside a coefficient a(0) of 0, and beside numbers that are too large.
		bad = append(bad, []complex128{0, z, 1}, []complex128{0, z}, []complex128{complex(negative, negative), 1, z})
		bad = append(bad, []complex128{z, complex(huge, huge), 1}, []complex128{complex(huge, huge), z, complex(tiny, 0)})
	}
	for name, f := range circlesFunctions() {
		for _, p := range bad {
			if isZero, code := f(p); !isZero || code != impl.ErrInvalid {
				t.Errorf("%s(%v): zero values %v, code %d", name, p, isZero, code)
			}
		}
	}
}

// Degrees 1 and 12 are those of polynomials, and 0 and 13 are not.
func TestDegreesOfCircles(t *testing.T) {
	for name, f := range circlesFunctions() {
		for length, want := range map[int]int64{0: impl.ErrInvalid, 1: impl.ErrInvalid, 2: impl.ErrNone, 13: impl.ErrNone, 14: impl.ErrInvalid} {
			if _, code := f(ones(length)); code != want {
				t.Errorf("%s for %d coefficients: code %d, want %d", name, length, code, want)
			}
		}
	}
}

func TestZeroValuesBesideLimitsOfCircles(t *testing.T) {
	for name, f := range circlesFunctions() {
		for _, p := range [][]complex128{{1, complex(huge, huge), 0, 1, complex(tiny, 0)}, {complex(tiny, 0), complex(huge, huge), complex(huge, huge)}} {
			if isZero, code := f(p); !isZero || code != impl.ErrLimit {
				t.Errorf("%s(%v): zero values %v, code %d", name, p, isZero, code)
			}
		}
	}
}

// A point that is not finite comes before too many points, and these before one that is too large.
func TestNarrowPointsHasARange(t *testing.T) {
	most, many := ones(100), ones(101)
	for _, c := range []struct {
		list []complex128
		code int64
	}{
		{most, impl.ErrNone},
		{many, impl.ErrRange},
		{ones(2000), impl.ErrRange},
		{with(many, 0, 1e300), impl.ErrRange},
		{with(many, 100, 1e300i), impl.ErrRange},
		{with(most, 99, 1e300), impl.ErrLimit},
	} {
		list, code := impl.NarrowPoints(c.list)
		checkNarrowList(t, fmt.Sprintf("NarrowPoints of %d points", len(c.list)), list, code, narrowList(most), c.code)
	}
	for _, z := range notFinites {
		for _, c := range [][]complex128{{z}, {1, z}, {z, 1}, {1e300, z}, with(most, 0, z), with(most, 99, z), with(many, 0, z), with(many, 100, z)} {
			list, code := impl.NarrowPoints(c)
			checkNarrowList(t, fmt.Sprintf("NarrowPoints(%v)", c), list, code, nil, impl.ErrInvalid)
		}
	}
}

func TestWidePointsHasARange(t *testing.T) {
	most, many := narrowList(ones(100)), narrowList(ones(101))
	for _, c := range []struct {
		list []complex64
		code int64
	}{
		{most, impl.ErrNone},
		{many, impl.ErrRange},
		{narrowList(ones(2000)), impl.ErrRange},
	} {
		list, code := impl.WidePoints(c.list)
		checkCoefficients(t, fmt.Sprintf("WidePoints of %d points", len(c.list)), list, code, ones(100), c.code)
	}
	for _, z := range notFinites {
		for _, c := range [][]complex128{{z}, {1, z}, {z, 1}, with(ones(100), 0, z), with(ones(100), 99, z), with(ones(101), 0, z), with(ones(101), 100, z)} {
			list, code := impl.WidePoints(narrowList(c))
			checkCoefficients(t, fmt.Sprintf("WidePoints(%v)", c), list, code, nil, impl.ErrInvalid)
		}
	}
}

func TestCountInsideHasRanges(t *testing.T) {
	most, many := ones(100), ones(101)
	check := func(list []complex128, z complex128, r float64, want, wantCode int64) {
		t.Helper()
		count, code := impl.CountInside(list, z, r)
		checkInteger(t, fmt.Sprintf("CountInside of %d points from %v with %g", len(list), z, r), count, code, want, wantCode)
	}
	check(most, 1, 0, 100, impl.ErrNone)
	check(many, 1, 0, 0, impl.ErrRange)
	check(ones(2000), 1, 1, 0, impl.ErrRange)
	for _, r := range []float64{-1, -tiny, -huge} {
		for _, list := range [][]complex128{nil, {1}, most, many} {
			check(list, 1, r, 0, impl.ErrRange)
		}
	}
	// What is not finite comes before what is not in its range.
	for _, r := range []float64{nan, inf, -inf} {
		for _, list := range [][]complex128{nil, {1}, most, many} {
			check(list, 1, r, 0, impl.ErrInvalid)
		}
	}
	for _, bad := range notFinites {
		for _, r := range []float64{0, 1, negative, -1, -huge, nan} {
			for _, list := range [][]complex128{nil, {1}, most, many} {
				check(list, bad, r, 0, impl.ErrInvalid)
			}
			for _, list := range [][]complex128{{bad}, {1, bad}, {bad, 1}, with(most, 99, bad), with(many, 0, bad), with(many, 100, bad)} {
				check(list, 1, r, 0, impl.ErrInvalid)
				check(list, bad, r, 0, impl.ErrInvalid)
			}
		}
	}
}

// Arguments stay as they are, with the memory behind them.
func TestCirclesChangeNoArgument(t *testing.T) {
	for _, list := range [][]complex128{{2, -3, 1}, {0, 1}, {3, 1}, {1, 2, 3, 4}, ones(13)} {
		p, all := roomyList(list)
		for name, f := range circlesFunctions() {
			f(p)
			checkRoomy(t, name, all, list)
		}
		impl.NarrowPoints(p)
		checkRoomy(t, "NarrowPoints", all, list)
		impl.CountInside(p, 1, 1)
		checkRoomy(t, "CountInside", all, list)
		narrow := narrowList(all)
		before := slices.Clone(narrow)
		impl.WidePoints(narrow[:len(list)])
		if !slices.Equal(narrow, before) {
			t.Errorf("WidePoints of %v changes it to %v", before, narrow)
		}
	}
}

// Lists of results stay when the arguments and the results of one more call are written over.
func TestPointsOwnTheirMemory(t *testing.T) {
	for _, numbers := range [][]complex128{{2, -3, 1}, {0, 1}, ones(13), {1, 2, 3i}} {
		p, all := roomyList(numbers)
		starting, _ := impl.StartingPoints(p)
		narrow, _ := impl.NarrowPoints(p)
		wide, _ := impl.WidePoints(narrow)
		wantStarting, wantNarrow, wantWide := slices.Clone(starting), slices.Clone(narrow), slices.Clone(wide)
		writeOver(starting)
		writeOver(wide)
		checkRoomy(t, "StartingPoints", all, numbers)
		if !slices.Equal(narrow, wantNarrow) {
			t.Errorf("WidePoints of %v: the result shares memory", wantNarrow)
		}
		again, _ := impl.StartingPoints(p)
		checkCoefficients(t, "StartingPoints", again, impl.ErrNone, wantStarting, impl.ErrNone)
		writeOver(all)
		if !slices.Equal(again, wantStarting) || !slices.Equal(narrow, wantNarrow) {
			t.Errorf("%v: StartingPoints or NarrowPoints share memory with it", numbers)
		}
		wide, _ = impl.WidePoints(narrow)
		for n := range narrow {
			narrow[n] = 5
		}
		checkCoefficients(t, "WidePoints", wide, impl.ErrNone, wantWide, impl.ErrNone)
	}
	for range 2 {
		list, _ := impl.StartingPoints([]complex128{2, 0, 1})
		checkCoefficients(t, "StartingPoints", list, impl.ErrNone, []complex128{2, 1.6 + 1.2i}, impl.ErrNone)
		writeOver(list)
	}
}

// Lists that are far too long are refused as those that are a bit too long.
func TestCirclesOfManyNumbers(t *testing.T) {
	many := make([]complex128, 1<<16)
	for name, f := range circlesFunctions() {
		if isZero, code := f(many); !isZero || code != impl.ErrInvalid {
			t.Errorf("%s of %d numbers: zero values %v, code %d", name, len(many), isZero, code)
		}
	}
	list, code := impl.NarrowPoints(many)
	checkNarrowList(t, "NarrowPoints", list, code, nil, impl.ErrRange)
	count, code := impl.CountInside(many, 0, math.MaxFloat64)
	checkInteger(t, "CountInside", count, code, 0, impl.ErrRange)
}
