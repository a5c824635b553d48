package tests

import (
	"fmt"
	"testing"

	"loop.example/g01156/impl"
)

// pointCase has both corrections at a number.
type pointCase struct {
	p                []complex128
	z                complex128
	laguerre, newton answer
}

func checkLaguerre(t *testing.T, p []complex128, z complex128, want complex128, wantCode int64) {
	t.Helper()
	c, code := impl.LaguerreCorrection(p, z)
	checkWide(t, fmt.Sprintf("LaguerreCorrection(%v, %v)", p, z), c, code, want, wantCode)
}

func checkNewton(t *testing.T, p []complex128, z complex128, want complex128, wantCode int64) {
	t.Helper()
	c, code := impl.NewtonCorrection(p, z)
	checkWide(t, fmt.Sprintf("NewtonCorrection(%v, %v)", p, z), c, code, want, wantCode)
}

func checkPointCases(t *testing.T, cases []pointCase) {
	t.Helper()
	for _, c := range cases {
		checkLaguerre(t, c.p, c.z, c.laguerre.z, c.laguerre.code)
		checkNewton(t, c.p, c.z, c.newton.z, c.newton.code)
	}
}

func TestLaguerreAndNewtonCorrections(t *testing.T) {
	state := fails(impl.ErrState)
	checkPointCases(t, []pointCase{
		{realList(-1, 0, 1), 0, is(1), state},
		{realList(-1, 0, 1), 2, is(quotientByParts(2, 2)), is(0.75)},
		// Powers of x are led to 0 at once.
		{realList(0, 0, 1), 1, is(1), is(0.5)},
		{realList(0, 0, 1), 1i, is(complex(negative, 1)), is(0.5i)},
		{realList(0, 0, 0, 1), 2, is(2), is(quotientByParts(8, 12))},
		// Degree 1, where the bend is 0.
		{realList(-4, 2), 4, is(2), is(2)},
		{realList(-4, 2), 3, is(1), is(1)},
		{[]complex128{1i, 1}, 0, is(complex(negative, 1)), is(1i)},
		{[]complex128{4, 1 + 1i}, 0, is(2 - 2i), is(2 - 2i)},
		// Degree 12.
		{append(make([]complex128, 12), 1), 2, is(2), is(quotientByParts(2, 12))},
		{append(make([]complex128, 12), -2i), 4, is(4), is(complex(1.0/3, negative))},
		// A slope of 0, with a bend and without.
		{realList(1, 0, 1), 0, is(complex(0, -1)), state},
		{realList(1, 0, 0, 1), 0, state, state},
		{realList(2, 0, 0, 0, 1), complex(negative, negative), state, state},
		{append(realList(-1), append(make([]complex128, 11), 1)...), 0, state, state},
		{realList(-3, 0, 1, 1), 0, is(1.5), state},
	})
}

// A value of 0 has a correction of 0 without signs, also where the slope is 0 or something of it would
// be too large.
func TestCorrectionsAtAValueOfZero(t *testing.T) {
	minus := complex(negative, negative)
	var cases []pointCase
	for _, c := range []pointCase{
		{p: realList(-1, 0, 1), z: 1},
		{p: realList(-1, 0, 1), z: -1},
		{p: realList(1, 0, 1), z: 1i},
		{p: realList(1, 0, 1), z: -1i},
		{p: realList(1, -2, 1), z: 1},
		{p: realList(0, 1), z: 0},
		{p: realList(0, 1), z: minus},
		{p: []complex128{minus, 1}, z: minus},
		{p: realList(0, -1), z: 0},
		{p: []complex128{0, -1i}, z: minus},
		{p: realList(0, 0, 1), z: 0},
		{p: realList(0, 0, 0, -1), z: minus},
		{p: realList(0, 1, huge), z: 0},
		{p: realList(0, huge, huge), z: complex(negative, 0)},
		{p: realList(-6, 3), z: 2},
		{p: realList(0, 0, tiny), z: 0.25},
	} {
		cases = append(cases, pointCase{c.p, c.z, is(0), is(0)})
	}
	checkPointCases(t, cases)
}

// The greater one of g + s and g - s is taken, and g + s if both have the same size: the sum of the
// absolute values of their parts, and no other absolute value.
func TestLaguerreTakesTheGreaterSize(t *testing.T) {
	for _, c := range []struct {
		p    []complex128
		d, n complex128
	}{
		// g is 1, and s is 2 or 2 i.
		{realList(1, 1, -0.75), 3, 2},
		{realList(1, 1, 1.25), 1 + 2i, 2},
		// g is -1.
		{realList(1, -1, -0.75), -3, 2},
		{realList(1, -1, 1.25), -1 + 2i, 2},
		// g is 1, and s is i; g is 0, and s is 1 or i.
		{realList(1, 1, 0.5), 1 + 1i, 2},
		{realList(1, 0, -0.25), 1, 2},
		{realList(1, 0, 0.25), 1i, 2},
		// g is i, or -i, and s is 1: both sizes are 2.
		{[]complex128{1, 1i, -0.5}, 1 + 1i, 2},
		{[]complex128{1, -1i, -0.5}, 1 - 1i, 2},
		// g is 3 + i, and s is 1 - 5 i: both sizes are 8, but g - s has the greater modulus.
		{[]complex128{1, 3 + 1i, 8 + 4i}, 4 - 4i, 2},
		// g is 3 + i, and s is 2 - 7 i: the sizes are 11 and 9, but g - s has the greater modulus.
		{[]complex128{1, 3 + 1i, 13.25 + 8.5i}, 5 - 6i, 2},
		{[]complex128{1, -3 - 1i, 13.25 + 8.5i}, -5 + 6i, 2},
		// g is 1 + 3 i, and s is 2 - 7 i: the sizes are 7 and 11.
		{[]complex128{1, 1 + 3i, 9.25 + 8.5i}, -1 + 10i, 2},
	} {
		checkLaguerre(t, c.p, 0, quotientByParts(c.n, c.d), impl.ErrNone)
		// As well for i times the polynomial.
		checkLaguerre(t, timesUnit(c.p), 0, quotientByParts(c.n, c.d), impl.ErrNone)
	}
}

func TestSignsOfZeroInCorrectionsOfLaguerre(t *testing.T) {
	minus := complex(negative, negative)
	for _, c := range []pointCase{
		{p: realList(-1, 0, 1), z: 0},
		{p: realList(-1, 0, 1), z: minus},
		{p: realList(-1, 0, 1), z: complex(2, negative)},
		{p: realList(-1, 0, 1), z: -2},
		{p: []complex128{-1, minus, 1}, z: 0},
		{p: []complex128{complex(-1, negative), minus, complex(1, negative)}, z: 0},
		{p: []complex128{complex(-1, negative), minus, complex(1, negative)}, z: minus},
		{p: realList(1, 0, 1), z: 0},
		{p: realList(1, 0, 1), z: minus},
		{p: []complex128{1, minus, 1}, z: complex(negative, 0)},
		{p: realList(2, 1), z: 0},
		{p: realList(2, -1), z: 0},
		{p: realList(-2, 1), z: minus},
		{p: []complex128{complex(2, negative), complex(1, negative)}, z: minus},
		{p: []complex128{complex(-2, negative), complex(negative, 1)}, z: minus},
		{p: []complex128{complex(negative, 2), complex(1, negative)}, z: 0},
		{p: []complex128{complex(negative, 2), 0, complex(1, negative)}, z: 0},
		{p: []complex128{complex(0, -2), minus, complex(negative, 1)}, z: minus},
		{p: realList(3, -4, 1), z: 5},
		{p: realList(6, 11, 6, 1), z: complex(0, 1)},
		{p: []complex128{1, 1i, complex(0.25, negative)}, z: 0},
	} {
		checkInOrderAt(t, c.p, c.z)
	}
	for _, c := range []pointCase{
		{realList(2, 1), 0, is(2), is(2)},
		{realList(2, -1), 0, is(complex(-2, negative)), is(complex(-2, negative))},
		{realList(-2, 1), 0, is(complex(-2, negative)), is(complex(-2, 0))},
	} {
		checkPointCases(t, []pointCase{c})
	}
}

// checkInOrderAt compares both corrections with what the document writes, operation by operation, and
// returns their codes.
func checkInOrderAt(t *testing.T, p []complex128, z complex128) (int64, int64) {
	t.Helper()
	var o inOrder
	var laguerre, newton complex128
	laguerreCode := codeInOrder(func() { laguerre = o.laguerre(p, z) })
	newtonCode := codeInOrder(func() { newton = o.newton(p, z) })
	checkLaguerre(t, p, z, laguerre, laguerreCode)
	checkNewton(t, p, z, newton, newtonCode)
	return laguerreCode, newtonCode
}

func TestCorrectionsInOrder(t *testing.T) {
	r := newRandom(321)
	laguerre, newton := map[int64]int{}, map[int64]int{}
	for range 6000 {
		p, z := anyWalked(r)
		code, other := checkInOrderAt(t, p, z)
		laguerre[code]++
		newton[other]++
		if t.Failed() {
			return
		}
	}
	if laguerre[impl.ErrNone] < 3000 || laguerre[impl.ErrLimit] < 500 {
		t.Errorf("corrections of Laguerre have the codes %v", laguerre)
	}
	if newton[impl.ErrNone] < 3000 || newton[impl.ErrLimit] < 400 {
		t.Errorf("corrections of Newton have the codes %v", newton)
	}
}

// Small whole numbers, where sums cancel and slopes and bends are 0.
func TestCorrectionsOfSmallNumbersInOrder(t *testing.T) {
	r := newRandom(322)
	laguerre, newton, zeros := map[int64]int{}, map[int64]int{}, 0
	for range 4000 {
		p, z := sparseWholes(r), wholeNumbers(r, 1)[0]
		if r.IntN(2) == 0 {
			z = append(minusZeros, 0)[r.IntN(4)]
		}
		code, other := checkInOrderAt(t, p, z)
		laguerre[code]++
		newton[other]++
		if wideWidth.hasValueZero(p, z) {
			zeros++
		}
	}
	if laguerre[impl.ErrState] < 100 || newton[impl.ErrState] < 300 || zeros < 300 {
		t.Errorf("corrections have the codes %v and %v, and %d values are 0", laguerre, newton, zeros)
	}
}
