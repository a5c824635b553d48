package tests

import (
	"math"
	"math/big"
	"math/rand/v2"
	"slices"
	"testing"

	"loop.example/g01156/impl"
)

func (c *calculation) float(x float64) float64 {
	return real(c.keep(complex(x, 0)))
}

// boundByParts is the bound of the value, operation by operation.
func boundByParts(p []complex128, z complex128) (float64, int64) {
	var c calculation
	before, s, e := p[len(p)-1], c.float(sizeOf(z)), 0.0
	for n := len(p) - 2; n >= 0; n-- {
		behind := c.sum(c.product(before, z), p[n])
		a, b := c.float(sizeOf(before)), c.float(sizeOf(behind))
		four := c.float(productOf(4, c.float(productOf(a, s))))
		both := c.float(sumOf(four, c.float(productOf(2, b))))
		rounding := c.float(productOf(both, math.Ldexp(1, -53)))
		sum := c.float(sumOf(c.float(productOf(e, s)), rounding))
		e = c.float(sumOf(c.float(productOf(sum, 1+math.Ldexp(1, -40))), math.Ldexp(1, -1060)))
		before = behind
	}
	return e, c.code()
}

// narrowedByParts rounds both parts to 32 bits.
func narrowedByParts(z complex128) complex64 {
	if !allFinite(real(z), imag(z)) {
		return complex64(z)
	}
	re, _ := exact(real(z)).Float32()
	im, _ := exact(imag(z)).Float32()
	return complex(re, im)
}

func narrowValueByParts(p []complex64, z complex64) (complex64, int64) {
	value := p[len(p)-1]
	for n := len(p) - 2; n >= 0; n-- {
		product := narrowedByParts(productByParts(complex128(value), complex128(z)))
		if code := codeOf(complex128(product)); code != impl.ErrNone {
			return 0, code
		}
		value = complex(narrowSumOf(real(product), real(p[n])), narrowSumOf(imag(product), imag(p[n])))
		if code := codeOf(complex128(value)); code != impl.ErrNone {
			return 0, code
		}
	}
	return value, impl.ErrNone
}

// gapByParts is the larger part of the difference of the narrow value and the wide one.
func gapByParts(p []complex64, z complex64) (float64, int64) {
	narrow, code := narrowValueByParts(p, z)
	if code != impl.ErrNone {
		return 0, code
	}
	wide, code := valueByParts(wideList(p), complex128(z))
	if code != impl.ErrNone {
		return 0, code
	}
	re := sumOf(float64(real(narrow)), -real(wide))
	im := sumOf(float64(imag(narrow)), -imag(wide))
	return max(math.Abs(re), math.Abs(im)), impl.ErrNone
}

// exactValueByParts is the exact value by Horner's way, with numbers that are looked at as they arise.
func exactValueByParts(p []complex128, z complex128) (binary, binary, int64) {
	x, y := valueOf(real(z)), valueOf(imag(z))
	last := p[len(p)-1]
	re, im := valueOf(real(last)), valueOf(imag(last))
	for n := len(p) - 2; n >= 0; n-- {
		products := []binary{times(re, x), times(im, y), times(re, y), times(im, x)}
		first, second := minus(products[0], products[1]), plus(products[2], products[3])
		re = reducedOf(plus(first, valueOf(real(p[n]))))
		im = reducedOf(plus(second, valueOf(imag(p[n]))))
		if code := worstCode(append(products, first, second, re, im)...); code != impl.ErrNone {
			return binary{}, binary{}, code
		}
	}
	return re, im, impl.ErrNone
}

func absoluteOf(b binary) binary {
	return binary{new(big.Int).Abs(b.whole), b.exponent}
}

func errorByParts(p []complex128, z complex128) (binary, int64) {
	value, code := valueByParts(p, z)
	if code != impl.ErrNone {
		return binary{}, code
	}
	re, im, code := exactValueByParts(p, z)
	if code != impl.ErrNone {
		return binary{}, code
	}
	re, im = minus(re, valueOf(real(value))), minus(im, valueOf(imag(value)))
	sum := plus(absoluteOf(re), absoluteOf(im))
	return sum, worstCode(re, im, sum)
}

func taylorByParts(p []complex128, z complex128) ([]complex128, int64) {
	var list []complex128
	for len(p) > 1 {
		q, number, code := deflationByParts(p, z)
		if code != impl.ErrNone {
			return nil, code
		}
		list = append(list, number)
		p = q
	}
	return append(list, p[0]), impl.ErrNone
}

// spreadNumbers gives numbers with parts between 2^least and 2^most.
func spreadNumbers(r *rand.Rand, count, least, most int) []complex128 {
	part := func() float64 {
		return math.Ldexp(math.Copysign(1+r.Float64(), r.Float64()-0.5), least+r.IntN(most-least))
	}
	var list []complex128
	for range count {
		list = append(list, complex(part(), part()))
	}
	return list
}

// besideRoot gives a polynomial, and a number beside one of its roots or at it.
func besideRoot(r *rand.Rand) ([]complex128, complex128) {
	roots := differentRoots(r, 1+r.IntN(12))
	if r.IntN(2) == 0 {
		roots = spreadNumbers(r, len(roots), -2, 2)
	}
	p, _ := rootsByParts(roots)
	root := roots[r.IntN(len(roots))]
	off := spreadNumbers(r, 1, -55, -20)[0]
	return p, []complex128{root, root + off, complex(math.Nextafter(real(root), huge), imag(root))}[r.IntN(3)]
}

// cancelling gives a polynomial whose first coefficient is the opposite of the value of all others.
func cancelling(r *rand.Rand) ([]complex128, complex128) {
	p, z := mediumPolynomial(r), spreadNumbers(r, 1, -4, 3)[0]
	if r.IntN(2) == 0 {
		p, z = spreadNumbers(r, 2+r.IntN(12), -30, 30), spreadNumbers(r, 1, -40, 20)[0]
	}
	value, _ := valueByParts(with(p, 0, 0), z)
	return with(p, 0, -value), z
}

// anyPointOf gives a polynomial and a number of one of several kinds: any ones, those whose values
// nearly cancel, with parts far apart in size, or near the ends of floats.
func anyPointOf(r *rand.Rand) ([]complex128, complex128) {
	count := 2 + r.IntN(12)
	switch r.IntN(8) {
	case 0:
		return besideRoot(r)
	case 1:
		return cancelling(r)
	case 2:
		return spreadNumbers(r, count, -200, 200), spreadNumbers(r, 1, -60, 60)[0]
	case 3:
		return spreadNumbers(r, count, -1073, -950), spreadNumbers(r, 1, -60, 3)[0]
	case 4:
		return spreadNumbers(r, count, -1000, -1), spreadNumbers(r, 1, -1000, -300)[0]
	case 5:
		return spreadNumbers(r, count, 900, 1023), spreadNumbers(r, 1, -70, 20)[0]
	default:
		return anyPolynomial(r), anyNumbers(r, 1)[0]
	}
}

// forPoints calls check with random polynomials and numbers, until the test has failed.
func forPoints(t *testing.T, seed uint64, check func(p []complex128, z complex128)) {
	t.Helper()
	r := newRandom(seed)
	for range 4000 {
		p, z := anyPointOf(r)
		check(p, z)
		if t.Failed() {
			return
		}
	}
}

// forNarrowPoints calls check with random narrow polynomials and numbers, until the test has failed.
func forNarrowPoints(t *testing.T, seed uint64, check func(p []complex64, z complex64)) {
	t.Helper()
	r := newRandom(seed)
	for range 6000 {
		count := 2 + r.IntN(12)
		var list []complex128
		var z complex64
		switch r.IntN(5) {
		case 0:
			list, z = spreadNumbers(r, count, -140, 120), complex64(spreadNumbers(r, 1, -140, 120)[0])
		case 1:
			list, z = spreadNumbers(r, count, 100, 127), complex64(spreadNumbers(r, 1, -20, 10)[0])
		case 2:
			list, z = spreadNumbers(r, count, -149, -100), complex64(spreadNumbers(r, 1, -20, 10)[0])
		case 3:
			p, at := besideRoot(r)
			list, z = p, complex64(at)
		default:
			for range count {
				list = append(list, complex128(anyNarrow(r)))
			}
			z = anyNarrow(r)
		}
		if p := narrowList(list); p[len(p)-1] != 0 && !slices.ContainsFunc(p, isNotFinite) {
			check(p, z)
		}
		if t.Failed() {
			return
		}
	}
}

func isNotFinite(z complex64) bool {
	return codeOf(complex128(z)) != impl.ErrNone
}
