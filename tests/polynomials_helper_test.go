package tests

import (
	"math"
	"math/rand/v2"
	"slices"
	"testing"

	"loop.example/g01156/impl"
)

// minusZeros are the numbers that are equal to 0 but not the same.
var minusZeros = []complex128{complex(negative, 0), complex(0, negative), complex(negative, negative)}

// notFinites are wide numbers that are not finite.
var notFinites = []complex128{
	complex(nan, 1), complex(1, nan), complex(inf, 1), complex(-inf, 0), complex(0, inf), complex(1, -inf), complex(nan, inf),
}

// calculation takes the operations of chapter 1 by parts, and keeps in mind whether a number that
// arose was not finite.
type calculation struct {
	isBeyond bool
}

func (c *calculation) keep(z complex128) complex128 {
	if !allFinite(real(z), imag(z)) {
		c.isBeyond = true
	}
	return z
}

func (c *calculation) sum(a, b complex128) complex128 {
	return c.keep(complex(sumOf(real(a), real(b)), sumOf(imag(a), imag(b))))
}

func (c *calculation) difference(a, b complex128) complex128 {
	return c.sum(a, -b)
}

func (c *calculation) product(a, b complex128) complex128 {
	return c.keep(productByParts(a, b))
}

func (c *calculation) quotient(a, b complex128) complex128 {
	return c.keep(quotientByParts(a, b))
}

func (c *calculation) code() int64 {
	if c.isBeyond {
		return impl.ErrLimit
	}
	return impl.ErrNone
}

func trimmed(list []complex128) []complex128 {
	for len(list) > 0 && list[len(list)-1] == 0 {
		list = list[:len(list)-1]
	}
	return list
}

// sumByParts, productOfParts and so on are what the document writes, coefficient by coefficient.
func sumByParts(p, q []complex128) ([]complex128, int64) {
	var c calculation
	var sum []complex128
	for n := range max(len(p), len(q)) {
		switch {
		case n >= len(q):
			sum = append(sum, p[n])
		case n >= len(p):
			sum = append(sum, q[n])
		default:
			sum = append(sum, c.sum(p[n], q[n]))
		}
	}
	return trimmed(sum), c.code()
}

func productOfParts(p, q []complex128) ([]complex128, int64) {
	if len(p) == 0 || len(q) == 0 {
		return nil, impl.ErrNone
	}
	if len(p)+len(q)-1 > 13 {
		return nil, impl.ErrLimit
	}
	var c calculation
	var product []complex128
	for n := range len(p) + len(q) - 1 {
		sum := complex128(0)
		for i := range p {
			if k := n - i; k >= 0 && k < len(q) {
				sum = c.sum(sum, c.product(p[i], q[k]))
			}
		}
		product = append(product, sum)
	}
	return trimmed(product), c.code()
}

func divisionByParts(p, q []complex128) ([]complex128, []complex128, int64) {
	var c calculation
	var quotient []complex128
	remainder, last := slices.Clone(p), q[len(q)-1]
	for len(remainder) >= len(q) {
		next := c.quotient(remainder[len(remainder)-1], last)
		quotient = append([]complex128{next}, quotient...)
		for i := range len(q) - 1 {
			place := len(remainder) - len(q) + i
			remainder[place] = c.difference(remainder[place], c.product(next, q[i]))
		}
		remainder = remainder[:len(remainder)-1]
	}
	return trimmed(quotient), trimmed(remainder), c.code()
}

func derivativeByParts(p []complex128) ([]complex128, int64) {
	var c calculation
	var list []complex128
	for n := 1; n < len(p); n++ {
		list = append(list, c.keep(complex(productOf(real(p[n]), float64(n)), productOf(imag(p[n]), float64(n)))))
	}
	return list, c.code()
}

func monicByParts(p []complex128) ([]complex128, int64) {
	var c calculation
	var list []complex128
	for _, z := range p[:len(p)-1] {
		list = append(list, c.quotient(z, p[len(p)-1]))
	}
	return append(list, 1), c.code()
}

func scaledByParts(p []complex128, k int64) ([]complex128, int64) {
	var c calculation
	var list []complex128
	factor := 2.0
	if k < 0 {
		factor = 0.5
	}
	for n, z := range p {
		for range max(k, -k) * int64(n) {
			z = c.keep(complex(real(z)*factor, imag(z)*factor))
		}
		list = append(list, z)
	}
	if list[len(list)-1] == 0 {
		return nil, impl.ErrLimit
	}
	return list, c.code()
}

func deflationByParts(p []complex128, z complex128) ([]complex128, complex128, int64) {
	var c calculation
	var q []complex128
	number := p[len(p)-1]
	for n := len(p) - 2; n >= 0; n-- {
		q = append([]complex128{number}, q...)
		number = c.sum(c.product(number, z), p[n])
	}
	return q, number, c.code()
}

// valueByParts is the value by Horner's way.
func valueByParts(p []complex128, z complex128) (complex128, int64) {
	var c calculation
	value := p[len(p)-1]
	for n := len(p) - 2; n >= 0; n-- {
		value = c.sum(c.product(value, z), p[n])
	}
	return value, c.code()
}

func rootsByParts(list []complex128) ([]complex128, int64) {
	var c calculation
	p := []complex128{1}
	for _, z := range list {
		var next []complex128
		for n := range len(p) + 1 {
			number := complex128(0)
			if n > 0 {
				number = p[n-1]
			}
			if n < len(p) {
				number = c.difference(number, c.product(p[n], z))
			}
			next = append(next, number)
		}
		p = next
	}
	return p, c.code()
}

func commonByParts(p, q []complex128, tolerance float64) ([]complex128, int64) {
	for len(q) > 1 {
		_, remainder, code := divisionByParts(p, q)
		if code != impl.ErrNone {
			return nil, code
		}
		for len(remainder) > 0 && sizeOf(remainder[len(remainder)-1]) <= tolerance {
			remainder = remainder[:len(remainder)-1]
		}
		if len(remainder) == 0 {
			return monicByParts(q)
		}
		p, q = q, remainder
	}
	return []complex128{1}, impl.ErrNone
}

func sizeOf(z complex128) float64 {
	return sumOf(math.Abs(real(z)), math.Abs(imag(z)))
}

// checkCoefficients compares a result with the list that is wanted, or with none if a code other
// than ErrNone is.
func checkCoefficients(t *testing.T, name string, list []complex128, code int64, want []complex128, wantCode int64) {
	t.Helper()
	if wantCode != impl.ErrNone {
		want = nil
	}
	if !slices.EqualFunc(list, want, sameWide) || code != wantCode {
		t.Errorf("%s = %v, %d, want %v, %d", name, list, code, want, wantCode)
	}
}

func wideList(list []complex64) []complex128 {
	var wide []complex128
	for _, z := range list {
		wide = append(wide, complex128(z))
	}
	return wide
}

func narrowList(list []complex128) []complex64 {
	var narrow []complex64
	for _, z := range list {
		narrow = append(narrow, complex64(z))
	}
	return narrow
}

// ones are the coefficients of 1 + x + x^2 and so on.
func ones(length int) []complex128 {
	return slices.Repeat([]complex128{1}, length)
}

// with is the list with one element replaced.
func with(list []complex128, place int, z complex128) []complex128 {
	list = slices.Clone(list)
	list[place] = z
	return list
}

// anyNumbers gives numbers of one of several kinds: small whole ones with both zeros, some of the
// order of 1, some far from it, or any.
func anyNumbers(r *rand.Rand, length int) []complex128 {
	part := func() float64 { return math.Ldexp(r.Float64()*2-1, r.IntN(4)-2) }
	switch r.IntN(5) {
	case 0, 1:
		part = func() float64 { return math.Copysign(float64(r.IntN(4)), r.Float64()-0.5) }
	case 2:
		exponent := r.IntN(2100) - 1074
		part = func() float64 { return math.Ldexp(r.Float64()*2-1, exponent+r.IntN(60)-30) }
	case 3:
		if r.IntN(2) == 0 {
			part = func() float64 { return anyFloat(r) }
		}
	}
	var list []complex128
	for len(list) < length {
		if z := complex(part(), part()); allFinite(real(z), imag(z)) {
			list = append(list, z)
		}
	}
	return list
}

// anyPart gives a part with at most so many coefficients, and at least so many.
func anyPart(r *rand.Rand, least, most int) []complex128 {
	for {
		list := anyNumbers(r, least+r.IntN(most-least+1))
		if len(list) == 0 || list[len(list)-1] != 0 {
			return list
		}
	}
}

func anyPolynomial(r *rand.Rand) []complex128 {
	return anyPart(r, 2, 13)
}

// smallMonic gives a polynomial with small whole coefficients and a last one of 1.
func smallMonic(r *rand.Rand, length int) []complex128 {
	var p []complex128
	for range length - 1 {
		p = append(p, complex(float64(r.IntN(11)-5), float64(r.IntN(11)-5)))
	}
	return append(p, 1)
}

// forPolynomials calls check with random polynomials, until the test has failed.
func forPolynomials(t *testing.T, seed uint64, check func(r *rand.Rand, p []complex128)) {
	r := newRandom(seed)
	for range 3000 {
		check(r, anyPolynomial(r))
		if t.Failed() {
			return
		}
	}
}

// badParts are no parts, and no polynomials.
func badParts() [][]complex128 {
	bad := [][]complex128{
		{0}, {1, 0}, {1, 2, 0, 0}, with(ones(13), 12, 0), ones(14), ones(15), make([]complex128, 13), make([]complex128, 2000),
		with(ones(14), 13, 0), with(ones(14), 0, complex(nan, 0)),
	}
	for _, zero := range minusZeros {
		bad = append(bad, []complex128{zero}, []complex128{1, zero}, with(ones(13), 12, zero))
	}
	for _, z := range notFinites {
		bad = append(bad, []complex128{z}, []complex128{z, 1}, []complex128{1, z}, []complex128{1, z, 2}, []complex128{1, z, 0})
		bad = append(bad, with(ones(13), 0, z), with(ones(13), 12, z), with(with(ones(13), 6, z), 12, 0))
	}
	return bad
}

// badPolynomials are no polynomials; the last ones of them are parts.
func badPolynomials() [][]complex128 {
	return append(badParts(), nil, []complex128{}, []complex128{1}, []complex128{2 - 1i})
}
