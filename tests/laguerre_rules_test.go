package tests

import (
	"math"
	"slices"
	"testing"

	"loop.example/g01156/impl"
)

// laguerreCall has arguments of all functions of chapter 8 for polynomials. Each function takes those
// that it has.
type laguerreCall struct {
	p     []complex128
	z     complex128
	bound float64
	most  int64
}

// laguerreFunction returns whether all results are zero values, and the code.
type laguerreFunction func(c laguerreCall) (bool, int64)

func isZeroWalk(walk impl.Walk) bool {
	return sameWide(walk.Point, 0) && walk.Steps == 0 && sameFloat(walk.Last, 0) && !walk.Still
}

func laguerreFunctions() map[string]laguerreFunction {
	return map[string]laguerreFunction{
		"LaguerreCorrection": func(c laguerreCall) (bool, int64) {
			z, code := impl.LaguerreCorrection(c.p, c.z)
			return sameWide(z, 0), code
		},
		"LaguerreWalk": func(c laguerreCall) (bool, int64) {
			walk, code := impl.LaguerreWalk(c.p, c.z, c.bound, c.most)
			return isZeroWalk(walk), code
		},
		"NewtonCorrection": func(c laguerreCall) (bool, int64) {
			z, code := impl.NewtonCorrection(c.p, c.z)
			return sameWide(z, 0), code
		},
		"PolishRoot": func(c laguerreCall) (bool, int64) {
			walk, code := impl.PolishRoot(c.p, c.z, c.most)
			return isZeroWalk(walk), code
		},
		"RootsByDeflation": func(c laguerreCall) (bool, int64) {
			list, code := impl.RootsByDeflation(c.p)
			return len(list) == 0, code
		},
	}
}

// checkLaguerreCall checks the code of a call of some functions, and the zero values beside it.
func checkLaguerreCall(t *testing.T, c laguerreCall, wantCode int64, names ...string) {
	t.Helper()
	for _, name := range names {
		if isZero, code := laguerreFunctions()[name](c); !isZero || code != wantCode {
			t.Errorf("%s of %v: zero values %v, code %d, want %d", name, c, isZero, code, wantCode)
		}
	}
}

var (
	allLaguerre   = []string{"LaguerreCorrection", "LaguerreWalk", "NewtonCorrection", "PolishRoot", "RootsByDeflation"}
	pointLaguerre = []string{"LaguerreCorrection", "LaguerreWalk", "NewtonCorrection", "PolishRoot"}
)

func TestLaguerreNeedsPolynomials(t *testing.T) {
	for _, p := range badPolynomials() {
		checkLaguerreCall(t, laguerreCall{p: p, z: 2, bound: 0.5, most: 5}, impl.ErrInvalid, allLaguerre...)
		checkLaguerreCall(t, laguerreCall{p: p}, impl.ErrInvalid, allLaguerre...)
		// Beside numbers that are not in their ranges, or not finite.
		checkLaguerreCall(t, laguerreCall{p: p, z: 1e300, bound: -1, most: 201}, impl.ErrInvalid, allLaguerre...)
		checkLaguerreCall(t, laguerreCall{p: p, z: complex(nan, 0), bound: nan, most: -1}, impl.ErrInvalid, allLaguerre...)
	}
}

func TestLaguerreNeedsFiniteNumbers(t *testing.T) {
	for _, z := range notFinites {
		// These have a slope of 0, or values that are too large.
		for _, p := range [][]complex128{realList(-1, 0, 1), realList(1, 1), ones(13), realList(1, 0, 0, 1), realList(huge, huge, huge)} {
			checkLaguerreCall(t, laguerreCall{p: p, z: z, most: 3}, impl.ErrInvalid, pointLaguerre...)
			checkLaguerreCall(t, laguerreCall{p: p, z: z, bound: 1}, impl.ErrInvalid, pointLaguerre...)
			checkLaguerreCall(t, laguerreCall{p: p, z: z, bound: -1, most: 201}, impl.ErrInvalid, pointLaguerre...)
			checkLaguerreCall(t, laguerreCall{p: p, z: z, bound: inf, most: -1}, impl.ErrInvalid, pointLaguerre...)
		}
	}
}

func TestLaguerreWalkNeedsAFiniteFloat(t *testing.T) {
	for _, bound := range []float64{nan, inf, -inf} {
		for _, most := range []int64{0, 1, 200, 201, -1} {
			for _, z := range []complex128{0, 1, 1e300} {
				checkLaguerreCall(t, laguerreCall{p: realList(-1, 0, 1), z: z, bound: bound, most: most}, impl.ErrInvalid, "LaguerreWalk")
				checkLaguerreCall(t, laguerreCall{p: realList(1, 0, 0, 1), z: z, bound: bound, most: most}, impl.ErrInvalid, "LaguerreWalk")
			}
		}
	}
}

func TestLaguerreRanges(t *testing.T) {
	// Steps would divide by 0, meet values that are too large, or find a root at once.
	for _, c := range []laguerreCall{
		{p: realList(-1, 0, 1), z: 2}, {p: realList(-1, 0, 1), z: 1}, {p: realList(1, 0, 0, 1)}, {p: realList(1, 0, 1)}, {p: realList(0, 0, 1), z: 1e200},
	} {
		for _, c.most = range []int64{-1, 201, 202, 1000, 1 << 32, math.MaxInt64, math.MinInt64} {
			for _, c.bound = range []float64{0, 1, -1} {
				checkLaguerreCall(t, c, impl.ErrRange, "LaguerreWalk", "PolishRoot")
			}
		}
		for _, c.most = range []int64{0, 1, impl.MaxSteps} {
			for _, c.bound = range []float64{-tiny, -0x1p-1022, -1e-7, -1, -huge} {
				checkLaguerreCall(t, c, impl.ErrRange, "LaguerreWalk")
			}
		}
	}
	for _, most := range []int64{0, 1, impl.MaxSteps} {
		for _, bound := range []float64{0, negative, tiny, huge} {
			if _, code := impl.LaguerreWalk(realList(-1, 0, 1), 1, bound, most); code != impl.ErrNone {
				t.Errorf("LaguerreWalk with %g and %d steps has the code %d", bound, most, code)
			}
		}
		if _, code := impl.PolishRoot(realList(-1, 0, 1), 1, most); code != impl.ErrNone {
			t.Errorf("PolishRoot with %d steps has the code %d", most, code)
		}
	}
}

// Degrees 1 and 12 are those of polynomials, and 0 and 13 are not.
func TestDegreesOfLaguerre(t *testing.T) {
	for name, f := range laguerreFunctions() {
		for length, want := range map[int]int64{0: impl.ErrInvalid, 1: impl.ErrInvalid, 2: impl.ErrNone, 3: impl.ErrNone, 13: impl.ErrNone, 14: impl.ErrInvalid} {
			if _, code := f(laguerreCall{p: ones(length), z: 2, bound: 1e-9, most: 3}); code != want {
				t.Errorf("%s for %d coefficients: code %d, want %d", name, length, code, want)
			}
		}
	}
}

// Arguments stay as they are, with the memory behind them.
func TestLaguerreChangesNoArgument(t *testing.T) {
	for _, list := range [][]complex128{
		realList(2, -3, 1), realList(-1, 0, 1), realList(3, 2), realList(0, 0, 1), realList(1, 0, 0, 1), ones(13), {0.1i, 3, 1e-9, 2 - 1i},
	} {
		p, all := roomyList(list)
		for name, f := range laguerreFunctions() {
			for _, z := range []complex128{0, 1, 2.5 - 1i} {
				f(laguerreCall{p: p, z: z, bound: 1e-6, most: 20})
				checkRoomy(t, name, all, list)
			}
		}
	}
}

// Roots stay when the polynomial and the roots of one more call are written over.
func TestRootsByDeflationOwnTheirMemory(t *testing.T) {
	for _, numbers := range [][]complex128{realList(2, -3, 1), realList(3, 2), realList(0, 0, 1), ones(13)} {
		p, all := roomyList(numbers)
		list, _ := impl.RootsByDeflation(p)
		want := slices.Clone(list)
		again, _ := impl.RootsByDeflation(p)
		writeOver(again)
		checkRoomy(t, "RootsByDeflation", all, numbers)
		checkCoefficients(t, "RootsByDeflation", list, impl.ErrNone, want, impl.ErrNone)
		writeOver(all)
		checkCoefficients(t, "RootsByDeflation", list, impl.ErrNone, want, impl.ErrNone)
		checkDeflationRoots(t, numbers, want, impl.ErrNone)
	}
}
