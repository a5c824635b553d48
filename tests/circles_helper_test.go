package tests

import (
	"math/rand/v2"
	"slices"
	"testing"

	"loop.example/g01156/impl"
)

// sizesByParts are the sizes of the quotients of the coefficients by the last one.
func (c *calculation) sizesByParts(p []complex128) []float64 {
	last := len(p) - 1
	var sizes []float64
	for _, z := range p[:last] {
		sizes = append(sizes, c.float(sizeOf(c.quotient(z, p[last]))))
	}
	return sizes
}

func greatestBoundByParts(p []complex128) (float64, int64) {
	var c calculation
	bound := c.float(sumOf(1, slices.Max(c.sizesByParts(p))))
	return bound, c.code()
}

func sumBoundByParts(p []complex128) (float64, int64) {
	var c calculation
	sum := 0.0
	for _, size := range c.sizesByParts(p) {
		sum = c.float(sumOf(sum, size))
	}
	return max(1, sum), c.code()
}

func rootBoundByParts(p []complex128) (float64, int64) {
	greatest, code := greatestBoundByParts(p)
	sum, sumCode := sumBoundByParts(p)
	return min(greatest, sum), max(code, sumCode)
}

func reversedList(p []complex128) []complex128 {
	reversed := slices.Clone(p)
	slices.Reverse(reversed)
	return reversed
}

func innerBoundByParts(p []complex128) (float64, int64) {
	if p[0] == 0 {
		return 0, impl.ErrState
	}
	bound, code := rootBoundByParts(reversedList(p))
	return quotientOf(1, bound), code
}

func (c *calculation) centreByParts(p []complex128) complex128 {
	n := len(p) - 1
	opposite := complex(-real(p[n-1]), -imag(p[n-1]))
	return c.quotient(opposite, c.product(complex(float64(n), 0), p[n]))
}

func centreByParts(p []complex128) (complex128, int64) {
	var c calculation
	centre := c.centreByParts(p)
	return centre, c.code()
}

func turnedByParts(k int) complex128 {
	power := complex128(1)
	for range k {
		power = productByParts(power, complex(0.8, 0.6))
	}
	return power
}

func startingPointsByParts(p []complex128) ([]complex128, int64) {
	var c calculation
	bound, code := rootBoundByParts(p)
	centre := c.centreByParts(p)
	var list []complex128
	for k := range len(p) - 1 {
		list = append(list, c.sum(centre, c.product(turnedByParts(k), complex(bound, 0))))
	}
	return list, max(code, c.code())
}

func narrowPointsByParts(list []complex128) ([]complex64, int64) {
	var c calculation
	var narrow []complex64
	for _, z := range list {
		point := narrowedByParts(z)
		c.keep(complex128(point))
		narrow = append(narrow, point)
	}
	return narrow, c.code()
}

func countByParts(list []complex128, z complex128, r float64) int64 {
	count := int64(0)
	for _, point := range list {
		var c calculation
		difference := c.difference(point, z)
		if c.code() == impl.ErrNone && sizeOf(difference) <= r {
			count++
		}
	}
	return count
}

// checkNarrowList compares a result with the list that is wanted, or with none if a code other than
// ErrNone is.
func checkNarrowList(t *testing.T, name string, list []complex64, code int64, want []complex64, wantCode int64) {
	t.Helper()
	checkCoefficients(t, name, wideList(list), code, wideList(want), wantCode)
}

// anyCircled gives a polynomial of one of several kinds: with coefficients near to each other or far
// apart, near the ends of floats, or any.
func anyCircled(r *rand.Rand) []complex128 {
	count := 2 + r.IntN(12)
	switch r.IntN(10) {
	case 0:
		return mediumPolynomial(r)
	case 1:
		return spreadNumbers(r, count, -5, 5)
	case 2:
		return spreadNumbers(r, count, -500, 500)
	case 3:
		return spreadNumbers(r, count, -1073, 1023)
	case 4:
		return spreadNumbers(r, count, -1073, -950)
	case 5:
		return spreadNumbers(r, count, 1010, 1023)
	case 6:
		return with(spreadNumbers(r, count, 1010, 1023), count-1, 1)
	default:
		return anyPolynomial(r)
	}
}

// forCircled calls check with random polynomials, until the test has failed.
func forCircled(t *testing.T, seed uint64, check func(p []complex128)) {
	t.Helper()
	r := newRandom(seed)
	for range 4000 {
		check(anyCircled(r))
		if t.Failed() {
			return
		}
	}
}
