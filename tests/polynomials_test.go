package tests

import (
	"fmt"
	"math"
	"math/rand/v2"
	"slices"
	"testing"

	"loop.example/g01156/impl"
)

type partsCase struct {
	p, q, want []complex128
	code       int64
}

func checkPartsCases(t *testing.T, name string, f func(p, q []complex128) ([]complex128, int64), cases []partsCase) {
	t.Helper()
	for _, c := range cases {
		list, code := f(c.p, c.q)
		checkCoefficients(t, fmt.Sprintf("%s(%v, %v)", name, c.p, c.q), list, code, c.want, c.code)
	}
}

// forParts calls check with pairs of random parts that have, added up, at most so many
// coefficients, until the test has failed.
func forParts(t *testing.T, seed uint64, most int, check func(p, q []complex128)) {
	r := newRandom(seed)
	for range 3000 {
		p := anyPart(r, 0, 13)
		q := anyPart(r, 0, min(13, most-len(p)))
		if r.IntN(2) == 0 {
			p, q = q, p
		}
		check(p, q)
		if t.Failed() {
			return
		}
	}
}

func TestMaxDegree(t *testing.T) {
	if impl.MaxDegree != 12 {
		t.Errorf("MaxDegree is %d", impl.MaxDegree)
	}
}

func TestIsPolynomial(t *testing.T) {
	good := [][]complex128{
		{0, 1}, {1, 1i}, {1, complex(tiny, 0)}, {1, complex(0, -tiny)}, {1, complex(negative, -1)}, {0, 0, 0, 2},
		{complex(huge, -huge), complex(-huge, huge)}, ones(13), with(ones(13), 5, 0), with(make([]complex128, 13), 12, 1i),
	}
	for _, p := range good {
		if !impl.IsPolynomial(p) {
			t.Errorf("%v is told to be no polynomial", p)
		}
	}
	for _, p := range badPolynomials() {
		if impl.IsPolynomial(p) {
			t.Errorf("%v is told to be a polynomial", p)
		}
	}
}

func TestIsNarrowPolynomial(t *testing.T) {
	good := [][]complex64{
		{0, 1}, {1, 1i}, {1, complex(tinyNarrow, 0)}, {1, complex(0, -tinyNarrow)}, {complex(hugeNarrow, 0), complex(0, -hugeNarrow)},
		narrowList(ones(13)), narrowList(with(ones(13), 5, 0)),
	}
	for _, p := range good {
		if !impl.IsNarrowPolynomial(p) {
			t.Errorf("%v is told to be no narrow polynomial", p)
		}
	}
	for _, p := range badPolynomials() {
		if impl.IsNarrowPolynomial(narrowList(p)) {
			t.Errorf("%v is told to be a narrow polynomial", p)
		}
	}
}

func TestAddParts(t *testing.T) {
	minus := complex(negative, negative)
	checkPartsCases(t, "AddParts", impl.AddParts, []partsCase{
		{nil, nil, nil, impl.ErrNone},
		{[]complex128{2}, nil, []complex128{2}, impl.ErrNone},
		{nil, []complex128{2, -3, 1}, []complex128{2, -3, 1}, impl.ErrNone},
		{[]complex128{2, -3, 1}, []complex128{1, 0, -1}, []complex128{3, -3}, impl.ErrNone},
		{[]complex128{1, 2i}, []complex128{3, 4, 5}, []complex128{4, 4 + 2i, 5}, impl.ErrNone},
		// All coefficients cancel, or some in front of one that does not.
		{[]complex128{1, 2}, []complex128{-1, -2}, nil, impl.ErrNone},
		{[]complex128{1i}, []complex128{-1i}, nil, impl.ErrNone},
		{[]complex128{1, 2, 3}, []complex128{-1, -2, 3}, []complex128{0, 0, 6}, impl.ErrNone},
		{[]complex128{1, 2, 3}, []complex128{-1, 2, -3}, []complex128{0, 4}, impl.ErrNone},
		{ones(13), with(ones(13), 12, -1), slices.Repeat([]complex128{2}, 12), impl.ErrNone},
		{ones(13), ones(13), slices.Repeat([]complex128{2}, 13), impl.ErrNone},
		// What just one has is not added to 0.
		{[]complex128{1}, []complex128{minus, minus, 1}, []complex128{1, minus, 1}, impl.ErrNone},
		{[]complex128{minus, minus, 1}, []complex128{1}, []complex128{1, minus, 1}, impl.ErrNone},
		{nil, []complex128{minus, 1}, []complex128{minus, 1}, impl.ErrNone},
		{[]complex128{minus, 1}, nil, []complex128{minus, 1}, impl.ErrNone},
		{[]complex128{minus, 1}, []complex128{0, 1}, []complex128{0, 2}, impl.ErrNone},
		{[]complex128{complex(1, negative), 1}, []complex128{complex(-1, negative), 1}, []complex128{complex(0, negative), 2}, impl.ErrNone},
		{[]complex128{1, 0x1p-53}, []complex128{0x1p-53, 1}, []complex128{1, 1}, impl.ErrNone},
		{[]complex128{complex(huge, 0), 1}, []complex128{complex(huge, 0), 1}, nil, impl.ErrLimit},
		{[]complex128{1, complex(0, -huge)}, []complex128{1, complex(0, -huge)}, nil, impl.ErrLimit},
		{[]complex128{1, complex(0, -huge), 1}, []complex128{1, complex(0, -huge), -1}, nil, impl.ErrLimit},
		{[]complex128{complex(huge, 0), 1}, []complex128{complex(-huge, huge), 1}, []complex128{complex(0, huge), 2}, impl.ErrNone},
	})
	forParts(t, 111, 26, func(p, q []complex128) {
		list, code := impl.AddParts(p, q)
		want, wantCode := sumByParts(p, q)
		checkCoefficients(t, fmt.Sprintf("AddParts(%v, %v)", p, q), list, code, want, wantCode)
	})
}

func TestMultiplyParts(t *testing.T) {
	minus := complex(negative, negative)
	checkPartsCases(t, "MultiplyParts", impl.MultiplyParts, []partsCase{
		{nil, nil, nil, impl.ErrNone},
		{nil, []complex128{5}, nil, impl.ErrNone},
		{ones(13), nil, nil, impl.ErrNone},
		{[]complex128{2i}, []complex128{3i}, []complex128{-6}, impl.ErrNone},
		{[]complex128{2, -3, 1}, []complex128{-1, 0, 1}, []complex128{-2, 3, 1, -3, 1}, impl.ErrNone},
		{[]complex128{0, 1}, []complex128{0, 0, 1i}, []complex128{0, 0, 0, 1i}, impl.ErrNone},
		// Exactly 13 coefficients, and 14.
		{ones(13), []complex128{2}, slices.Repeat([]complex128{2}, 13), impl.ErrNone},
		{[]complex128{2}, ones(13), slices.Repeat([]complex128{2}, 13), impl.ErrNone},
		{ones(7), ones(7), []complex128{1, 2, 3, 4, 5, 6, 7, 6, 5, 4, 3, 2, 1}, impl.ErrNone},
		{ones(12), ones(2), with(with(slices.Repeat([]complex128{2}, 13), 0, 1), 12, 1), impl.ErrNone},
		{ones(7), ones(8), nil, impl.ErrLimit},
		{ones(13), ones(2), nil, impl.ErrLimit},
		{ones(2), ones(13), nil, impl.ErrLimit},
		{ones(13), ones(13), nil, impl.ErrLimit},
		// Last products that become 0 are left out, but counted.
		{[]complex128{1, 1e-200}, []complex128{1, 1e-200}, []complex128{1, 2e-200}, impl.ErrNone},
		{[]complex128{1e-200}, []complex128{1, 1e-100, 1e-200}, []complex128{1e-200, 1e-300}, impl.ErrNone},
		{[]complex128{1e-200}, []complex128{complex(-1e-200, 1e-200)}, nil, impl.ErrNone},
		{[]complex128{0, 1e-200}, []complex128{0, 1e-200}, nil, impl.ErrNone},
		{with(ones(13), 12, 1e-200), []complex128{1, 1e-200}, nil, impl.ErrLimit},
		// The sum begins with 0, which takes the sign of -0 away.
		{[]complex128{1}, []complex128{minus, 1}, []complex128{0, 1}, impl.ErrNone},
		{[]complex128{-1}, []complex128{0, 1}, []complex128{0, -1}, impl.ErrNone},
		// Rounded sums in the order of the first factor's coefficients.
		{ones(3), []complex128{-0x1p53, 0x1p53, 1}, []complex128{-0x1p53, 0, 0, 0x1p53, 1}, impl.ErrNone},
		{ones(3), []complex128{1, 0x1p53, -0x1p53}, []complex128{1, 0x1p53, 1, 0, -0x1p53}, impl.ErrNone},
		{[]complex128{1, 0x1p53, -0x1p53}, ones(3), []complex128{1, 0x1p53, 0, 0, -0x1p53}, impl.ErrNone},
		{[]complex128{complex(huge, 0), 1}, []complex128{2, 1}, nil, impl.ErrLimit},
		{[]complex128{1, complex(0, 1e200)}, []complex128{1, 1e200}, nil, impl.ErrLimit},
		// Products that are finite, with sums that are not, or are.
		{[]complex128{complex(huge, 0), complex(huge, 0), complex(-huge, 0)}, ones(3), nil, impl.ErrLimit},
		{[]complex128{1, complex(huge, 0), complex(-huge, 0)}, ones(3), []complex128{1, complex(huge, 0), 0, 0, complex(-huge, 0)}, impl.ErrNone},
	})
	forParts(t, 112, 14, func(p, q []complex128) {
		list, code := impl.MultiplyParts(p, q)
		want, wantCode := productOfParts(p, q)
		checkCoefficients(t, fmt.Sprintf("MultiplyParts(%v, %v)", p, q), list, code, want, wantCode)
	})
	forParts(t, 113, 26, func(p, q []complex128) {
		list, code := impl.MultiplyParts(p, q)
		want, wantCode := productOfParts(p, q)
		checkCoefficients(t, fmt.Sprintf("MultiplyParts(%v, %v)", p, q), list, code, want, wantCode)
	})
}

type divisionCase struct {
	p, q, quotient, remainder []complex128
	code                      int64
}

func checkDivision(t *testing.T, c divisionCase) {
	t.Helper()
	name := fmt.Sprintf("DividePolynomial(%v, %v)", c.p, c.q)
	quotient, remainder, code := impl.DividePolynomial(c.p, c.q)
	checkCoefficients(t, name+", quotient,", quotient, code, c.quotient, c.code)
	checkCoefficients(t, name+", remainder,", remainder, code, c.remainder, c.code)
}

func TestDividePolynomial(t *testing.T) {
	minus := complex(negative, negative)
	for _, c := range []divisionCase{
		{[]complex128{-2, 3, 1, -3, 1}, []complex128{-1, 0, 1}, []complex128{2, -3, 1}, nil, impl.ErrNone},
		{[]complex128{2, -3, 1}, []complex128{1i, 2}, []complex128{-1.5 - 0.25i, 0.5}, []complex128{1.75 + 1.5i}, impl.ErrNone},
		// The dividend is shorter, or as long.
		{[]complex128{2, -3}, []complex128{1, 2, 3}, nil, []complex128{2, -3}, impl.ErrNone},
		{[]complex128{minus, -3}, ones(13), nil, []complex128{minus, -3}, impl.ErrNone},
		{[]complex128{2, 4}, []complex128{1, 2}, []complex128{2}, nil, impl.ErrNone},
		{[]complex128{2, 5}, []complex128{1, 2}, []complex128{2.5}, []complex128{-0.5}, impl.ErrNone},
		{ones(13), ones(13), []complex128{1}, nil, impl.ErrNone},
		{ones(13), []complex128{0, 1}, ones(12), []complex128{1}, impl.ErrNone},
		// Zeros within quotients and remainders, and at the ends of remainders.
		{[]complex128{5, 0, 0, 0, 1}, []complex128{0, 0, 1}, []complex128{0, 0, 1}, []complex128{5}, impl.ErrNone},
		{[]complex128{0, 5, 0, 0, 0, 1}, []complex128{0, 0, 0, 1}, []complex128{0, 0, 1}, []complex128{0, 5}, impl.ErrNone},
		{[]complex128{3, 0, 7, 1}, []complex128{0, 0, 0, 1}, []complex128{1}, []complex128{3, 0, 7}, impl.ErrNone},
		{[]complex128{1, 1, 0, 1}, []complex128{0, 1, 0, 1}, []complex128{1}, []complex128{1}, impl.ErrNone},
		// Quotients that become 0 at their ends.
		{[]complex128{1, 2, complex(tiny, 0)}, []complex128{0, 4}, []complex128{0.5}, []complex128{1}, impl.ErrNone},
		{[]complex128{1, complex(tiny, 0)}, []complex128{3, 4}, nil, []complex128{1}, impl.ErrNone},
		{[]complex128{0, 0, complex(tiny, 0)}, []complex128{3, 4}, nil, nil, impl.ErrNone},
		{[]complex128{0, 1, 0, complex(tiny, 0)}, []complex128{3, 4}, []complex128{0.25}, []complex128{-0.75}, impl.ErrNone},
		// The last coefficient of the remainder is left out, even if a rounded quotient does not cancel it.
		{[]complex128{1, 1}, []complex128{0, 3}, []complex128{1.0 / 3}, []complex128{1}, impl.ErrNone},
		{[]complex128{0, 5 * 0x1p-1074}, []complex128{0, 2}, []complex128{2 * 0x1p-1074}, nil, impl.ErrNone},
		// Signs of 0: 0 less 0 is 0, and -0 less 0 is -0.
		{[]complex128{0, 0, 1}, []complex128{0, 0, 1}, []complex128{1}, nil, impl.ErrNone},
		{[]complex128{minus, 5, 1}, []complex128{0, 0, 1}, []complex128{1}, []complex128{minus, 5}, impl.ErrNone},
		{[]complex128{minus, 5, 1}, []complex128{-1i, 1, 1}, []complex128{1}, []complex128{complex(negative, 1), 4}, impl.ErrNone},
		// Quotients, products and differences that are not finite.
		{[]complex128{1, complex(huge, 0)}, []complex128{0, 0.5}, nil, nil, impl.ErrLimit},
		{[]complex128{1, complex(0, huge), 1}, []complex128{0, 0.5i}, nil, nil, impl.ErrLimit},
		{[]complex128{1, 1e200}, []complex128{1e200, 1}, nil, nil, impl.ErrLimit},
		{[]complex128{complex(huge, 0), -1}, []complex128{complex(huge, 0), 1}, nil, nil, impl.ErrLimit},
		{[]complex128{complex(huge, 0), 1}, []complex128{complex(huge, 0), 1}, []complex128{1}, nil, impl.ErrNone},
		{[]complex128{1, 1, 1, 1e200}, []complex128{1, 1e200, 1}, nil, nil, impl.ErrLimit},
	} {
		checkDivision(t, c)
	}
}

func TestDivisionsByParts(t *testing.T) {
	forPolynomials(t, 114, func(r *rand.Rand, p []complex128) {
		q := anyPolynomial(r)
		quotient, remainder, code := divisionByParts(p, q)
		checkDivision(t, divisionCase{p, q, quotient, remainder, code})
		// Sparse ones have zeros in their quotients and remainders.
		p, q = sparse(r, 13), sparse(r, 7)
		quotient, remainder, code = divisionByParts(p, q)
		checkDivision(t, divisionCase{p, q, quotient, remainder, code})
	})
}

// sparse gives a polynomial most of whose coefficients are 0 or -0.
func sparse(r *rand.Rand, most int) []complex128 {
	p := anyPart(r, 2, most)
	for n := range len(p) - 1 {
		if r.IntN(3) > 0 {
			p[n] = append(minusZeros, 0)[r.IntN(4)]
		}
	}
	return p
}

func TestDerivativeOf(t *testing.T) {
	minus := complex(negative, negative)
	for _, c := range []struct {
		p, want []complex128
		code    int64
	}{
		{[]complex128{2, -3, 1}, []complex128{-3, 2}, impl.ErrNone},
		{[]complex128{2, -3i}, []complex128{-3i}, impl.ErrNone},
		{ones(13), []complex128{1, 2, 3, 4, 5, 6, 7, 8, 9, 10, 11, 12}, impl.ErrNone},
		{[]complex128{1, 0, 0, 1 - 2i}, []complex128{0, 0, 3 - 6i}, impl.ErrNone},
		// Parts are multiplied by n + 1, and not the numbers by n + 1 + 0i.
		{[]complex128{1, minus, minus, 1}, []complex128{minus, minus, 3}, impl.ErrNone},
		{[]complex128{1, 0, complex(negative, 2), complex(-3, negative)}, []complex128{0, complex(negative, 4), complex(-9, negative)}, impl.ErrNone},
		{[]complex128{1, 1, 1, 0.1}, []complex128{1, 2, 3 * 0x1.999999999999ap-4}, impl.ErrNone},
		{[]complex128{1, complex(huge, -huge)}, []complex128{complex(huge, -huge)}, impl.ErrNone},
		{[]complex128{1, 1, complex(0x1p1023, 0)}, nil, impl.ErrLimit},
		{[]complex128{1, 1, complex(0, -0x1p1022)}, []complex128{1, complex(0, -0x1p1023)}, impl.ErrNone},
		{[]complex128{1, 1, complex(0, -huge), 1}, nil, impl.ErrLimit},
	} {
		list, code := impl.DerivativeOf(c.p)
		checkCoefficients(t, fmt.Sprintf("DerivativeOf(%v)", c.p), list, code, c.want, c.code)
	}
	forPolynomials(t, 115, func(_ *rand.Rand, p []complex128) {
		list, code := impl.DerivativeOf(p)
		want, wantCode := derivativeByParts(p)
		checkCoefficients(t, fmt.Sprintf("DerivativeOf(%v)", p), list, code, want, wantCode)
	})
}

func TestMakeMonic(t *testing.T) {
	for _, c := range []struct {
		p, want []complex128
		code    int64
	}{
		{[]complex128{4, 2i, 2}, []complex128{2, 1i, 1}, impl.ErrNone},
		{[]complex128{1, 3}, []complex128{1.0 / 3, 1}, impl.ErrNone},
		{ones(13), ones(13), impl.ErrNone},
		// The last quotient is not taken: it would be 1 - 0i.
		{[]complex128{0, -1 + 2i}, []complex128{complex(0, negative), 1}, impl.ErrNone},
		{[]complex128{0, -1}, []complex128{complex(negative, negative), 1}, impl.ErrNone},
		{[]complex128{complex(tiny, 0), complex(huge, 0)}, []complex128{0, 1}, impl.ErrNone},
		{[]complex128{complex(huge, 0), 1, complex(tiny, 0)}, nil, impl.ErrLimit},
		{[]complex128{1, complex(0, huge), 0.5i}, nil, impl.ErrLimit},
		{[]complex128{complex(huge, 0), complex(huge, 0)}, []complex128{1, 1}, impl.ErrNone},
	} {
		list, code := impl.MakeMonic(c.p)
		checkCoefficients(t, fmt.Sprintf("MakeMonic(%v)", c.p), list, code, c.want, c.code)
	}
	forPolynomials(t, 116, func(_ *rand.Rand, p []complex128) {
		list, code := impl.MakeMonic(p)
		want, wantCode := monicByParts(p)
		checkCoefficients(t, fmt.Sprintf("MakeMonic(%v)", p), list, code, want, wantCode)
	})
}

func TestScalePolynomial(t *testing.T) {
	small := func(n float64) complex128 { return complex(n*tiny, 0) }
	minus := complex(negative, negative)
	for _, c := range []struct {
		p    []complex128
		k    int64
		want []complex128
		code int64
	}{
		{[]complex128{2, -3, 1}, 1, []complex128{2, -6, 4}, impl.ErrNone},
		{[]complex128{2, -3, 1}, -1, []complex128{2, -1.5, 0.25}, impl.ErrNone},
		{[]complex128{2, minus, 1 - 1i}, 0, []complex128{2, minus, 1 - 1i}, impl.ErrNone},
		{[]complex128{2, 3, 1i}, 60, []complex128{2, 3 * 0x1p60, 0x1p120i}, impl.ErrNone},
		{[]complex128{2, 3, 1i}, -60, []complex128{2, 3 * 0x1p-60, 0x1p-120i}, impl.ErrNone},
		{[]complex128{2, 3, 1i}, 61, nil, impl.ErrRange},
		{[]complex128{2, 3, 1i}, -61, nil, impl.ErrRange},
		{[]complex128{2, 3, 1i}, math.MaxInt64, nil, impl.ErrRange},
		{[]complex128{2, 3, 1i}, math.MinInt64, nil, impl.ErrRange},
		{[]complex128{complex(huge, 0), complex(huge, 0)}, 61, nil, impl.ErrRange},
		{with(make([]complex128, 13), 12, 1), 60, with(make([]complex128, 13), 12, 0x1p720), impl.ErrNone},
		{with(make([]complex128, 13), 12, 1), -60, with(make([]complex128, 13), 12, 0x1p-720), impl.ErrNone},
		// Each halving is rounded by itself: 11, 6, 3 and 2, and not 11 / 8.
		{[]complex128{1, 1, 1, small(11)}, -1, []complex128{1, 0.5, 0.25, small(2)}, impl.ErrNone},
		// Coefficients may become 0, but not the last one.
		{[]complex128{small(1), small(1), 1}, -1, []complex128{small(1), 0, 0.25}, impl.ErrNone},
		{[]complex128{1, small(-1), 1}, -1, []complex128{1, complex(negative, 0), 0.25}, impl.ErrNone},
		{[]complex128{1, small(1)}, -1, nil, impl.ErrLimit},
		{[]complex128{1, small(-1)}, -1, nil, impl.ErrLimit},
		{[]complex128{1, complex(tiny, 2*tiny)}, -1, []complex128{1, complex(0, tiny)}, impl.ErrNone},
		{[]complex128{1, small(2)}, -1, []complex128{1, small(1)}, impl.ErrNone},
		{with(make([]complex128, 13), 12, 0x1p-400), -60, nil, impl.ErrLimit},
		{[]complex128{1, complex(huge, 0)}, 1, nil, impl.ErrLimit},
		{[]complex128{complex(huge, 0), 1}, 1, []complex128{complex(huge, 0), 2}, impl.ErrNone},
		{[]complex128{1, complex(0, huge), 1}, 1, nil, impl.ErrLimit},
		{[]complex128{1, complex(0, huge), small(1)}, 1, nil, impl.ErrLimit},
		{with(ones(13), 12, 0x1p303), 60, with(scaledOnes(60), 12, 0x1p1023), impl.ErrNone},
		{with(ones(13), 12, 0x1p304), 60, nil, impl.ErrLimit},
	} {
		list, code := impl.ScalePolynomial(c.p, c.k)
		checkCoefficients(t, fmt.Sprintf("ScalePolynomial(%v, %d)", c.p, c.k), list, code, c.want, c.code)
	}
	forPolynomials(t, 117, func(r *rand.Rand, p []complex128) {
		k := []int64{r.Int64N(121) - 60, r.Int64N(5) - 2}[r.IntN(2)]
		list, code := impl.ScalePolynomial(p, k)
		want, wantCode := scaledByParts(p, k)
		checkCoefficients(t, fmt.Sprintf("ScalePolynomial(%v, %d)", p, k), list, code, want, wantCode)
	})
}

// scaledOnes are 13 coefficients of 1, scaled by k.
func scaledOnes(k int) []complex128 {
	var list []complex128
	for n := range 13 {
		list = append(list, complex(math.Ldexp(1, k*n), 0))
	}
	return list
}

func TestDeflateBy(t *testing.T) {
	minus := complex(negative, negative)
	for _, c := range []struct {
		p    []complex128
		z    complex128
		q    []complex128
		r    complex128
		code int64
	}{
		{[]complex128{2, -3, 1}, 1, []complex128{-2, 1}, 0, impl.ErrNone},
		{[]complex128{2, -3, 1}, 1i, []complex128{-3 + 1i, 1}, 1 - 3i, impl.ErrNone},
		{[]complex128{2, 3i}, 2, []complex128{3i}, 2 + 6i, impl.ErrNone},
		{[]complex128{2, -3, 1}, 0, []complex128{-3, 1}, 2, impl.ErrNone},
		{ones(13), -1, []complex128{0, 1, 0, 1, 0, 1, 0, 1, 0, 1, 0, 1}, 1, impl.ErrNone},
		{[]complex128{0, 0, 1}, 0, []complex128{0, 1}, 0, impl.ErrNone},
		// The products are 0 - 0i and -0 + 0i.
		{[]complex128{minus, minus, 1}, minus, []complex128{complex(0, negative), 1}, complex(negative, 0), impl.ErrNone},
		{[]complex128{complex(huge, 0), 1}, complex(huge, 0), nil, 0, impl.ErrLimit},
		{[]complex128{1, 1, complex(huge, 0)}, 2, nil, 0, impl.ErrLimit},
		{[]complex128{1, 1e200}, 1e200i, nil, 0, impl.ErrLimit},
		{[]complex128{complex(huge, 0), 1}, complex(-huge, 0), []complex128{1}, 0, impl.ErrNone},
		{[]complex128{1, complex(huge, 0), complex(huge, 0)}, 1, nil, 0, impl.ErrLimit},
	} {
		checkDeflation(t, c.p, c.z, c.q, c.r, c.code)
	}
	forPolynomials(t, 118, func(r *rand.Rand, p []complex128) {
		z := anyNumbers(r, 1)[0]
		q, number, code := deflationByParts(p, z)
		checkDeflation(t, p, z, q, number, code)
	})
}

func checkDeflation(t *testing.T, p []complex128, z complex128, want []complex128, wantNumber complex128, wantCode int64) {
	t.Helper()
	name := fmt.Sprintf("DeflateBy(%v, %v)", p, z)
	q, number, code := impl.DeflateBy(p, z)
	checkCoefficients(t, name, q, code, want, wantCode)
	checkWide(t, name+", number,", number, code, wantNumber, wantCode)
}

func TestPolynomialOfRoots(t *testing.T) {
	for _, c := range []struct {
		roots, want []complex128
		code        int64
	}{
		{[]complex128{1, 2}, []complex128{2, -3, 1}, impl.ErrNone},
		{[]complex128{2, 1}, []complex128{2, -3, 1}, impl.ErrNone},
		{[]complex128{1i}, []complex128{-1i, 1}, impl.ErrNone},
		{[]complex128{1i, -1i}, []complex128{1, 0, 1}, impl.ErrNone},
		{[]complex128{0}, []complex128{0, 1}, impl.ErrNone},
		{make([]complex128, 12), with(make([]complex128, 13), 12, 1), impl.ErrNone},
		{ones(12), []complex128{1, -12, 66, -220, 495, -792, 924, -792, 495, -220, 66, -12, 1}, impl.ErrNone},
		// The order of the roots counts.
		{[]complex128{1, 0x1p-53, 0x1p-53}, []complex128{-0x1p-106, 0x1p-52, -1, 1}, impl.ErrNone},
		{[]complex128{0x1p-53, 0x1p-53, 1}, []complex128{-0x1p-106, 0x1p-52 + 0x1p-106, -1 - 0x1p-52, 1}, impl.ErrNone},
		{nil, nil, impl.ErrRange},
		{[]complex128{}, nil, impl.ErrRange},
		{ones(13), nil, impl.ErrRange},
		{with(ones(13), 4, complex(nan, 0)), nil, impl.ErrRange},
		{with(ones(2000), 4, complex(inf, 0)), nil, impl.ErrRange},
		{with(ones(12), 11, complex(0, inf)), nil, impl.ErrInvalid},
		{[]complex128{complex(nan, 0)}, nil, impl.ErrInvalid},
		{[]complex128{complex(huge, 0), complex(nan, 0)}, nil, impl.ErrInvalid},
		{[]complex128{complex(huge, 0), complex(0, -huge), complex(1, inf)}, nil, impl.ErrInvalid},
		{[]complex128{complex(huge, 0)}, []complex128{complex(-huge, 0), 1}, impl.ErrNone},
		{[]complex128{complex(huge, 0), complex(huge, 0)}, nil, impl.ErrLimit},
		{[]complex128{complex(huge, 0), complex(huge, 0), 0}, nil, impl.ErrLimit},
		{[]complex128{complex(huge, 0), complex(-huge, 0)}, nil, impl.ErrLimit},
		{[]complex128{1e200, 1e200}, nil, impl.ErrLimit},
	} {
		list, code := impl.PolynomialOfRoots(c.roots)
		checkCoefficients(t, fmt.Sprintf("PolynomialOfRoots(%v)", c.roots), list, code, c.want, c.code)
	}
	r := newRandom(119)
	for range 3000 {
		roots := anyNumbers(r, 1+r.IntN(12))
		list, code := impl.PolynomialOfRoots(roots)
		want, wantCode := rootsByParts(roots)
		checkCoefficients(t, fmt.Sprintf("PolynomialOfRoots(%v)", roots), list, code, want, wantCode)
	}
}
