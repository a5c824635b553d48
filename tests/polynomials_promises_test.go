package tests

import (
	"fmt"
	"math"
	"math/big"
	"math/rand/v2"
	"slices"
	"testing"

	"loop.example/g01156/impl"
)

func TestPromise4DeflationsEndWithValues(t *testing.T) {
	forPolynomials(t, 141, func(r *rand.Rand, p []complex128) {
		z := anyNumbers(r, 1)[0]
		_, number, code := impl.DeflateBy(p, z)
		want, wantCode := valueByParts(p, z)
		checkWide(t, fmt.Sprintf("DeflateBy(%v, %v)", p, z), number, code, want, wantCode)
	})
}

func TestPromise4DivisionOfWholeCoefficientsIsExact(t *testing.T) {
	r := newRandom(142)
	for range 3000 {
		p := smallMonic(r, 2+r.IntN(6))
		q := smallMonic(r, 2+r.IntN(6))
		product, code := impl.MultiplyParts(p, q)
		if code != impl.ErrNone {
			t.Fatalf("MultiplyParts(%v, %v): code %d", p, q, code)
		}
		for _, factors := range [][2][]complex128{{p, q}, {q, p}} {
			name := fmt.Sprintf("DividePolynomial(%v, %v)", product, factors[0])
			quotient, remainder, code := impl.DividePolynomial(product, factors[0])
			if same, _ := impl.EqualPolynomials(quotient, factors[1]); !same || len(remainder) > 0 || code != impl.ErrNone {
				t.Fatalf("%s = %v, %v, %d, want %v and no remainder", name, quotient, remainder, code, factors[1])
			}
		}
		// With a remainder, too.
		checkWholeDivision(t, smallMonic(r, 2+r.IntN(7)), q)
	}
}

// checkWholeDivision compares a division of whole complex coefficients by a monic polynomial with
// one in whole numbers.
func checkWholeDivision(t *testing.T, p, q []complex128) {
	t.Helper()
	re, im := make([]int64, len(p)), make([]int64, len(p))
	for n, z := range p {
		re[n], im[n] = int64(real(z)), int64(imag(z))
	}
	end := len(p)
	for ; end >= len(q); end-- {
		for i, z := range q[:len(q)-1] {
			a, b, c, d := re[end-1], im[end-1], int64(real(z)), int64(imag(z))
			re[end-len(q)+i] -= a*c - b*d
			im[end-len(q)+i] -= a*d + b*c
		}
	}
	var all []complex128
	for n := range p {
		all = append(all, complex(float64(re[n]), float64(im[n])))
	}
	var quotient []complex128
	if len(p) >= len(q) {
		quotient = all[len(q)-1:]
	}
	got, rest, code := impl.DividePolynomial(p, q)
	if !slices.Equal(got, trimmed(quotient)) || !slices.Equal(rest, trimmed(all[:end])) || code != impl.ErrNone {
		t.Fatalf("DividePolynomial(%v, %v) = %v, %v, %d, want %v, %v", p, q, got, rest, code, quotient, all[:end])
	}
}

func TestPromise4NarrowPolynomialsComeBack(t *testing.T) {
	r := newRandom(143)
	for range 3000 {
		p := make([]complex64, 2+r.IntN(12))
		for n := range p {
			p[n] = anyNarrow(r)
		}
		wide, code := impl.WidePolynomial(p)
		if !impl.IsNarrowPolynomial(p) {
			checkCoefficients(t, fmt.Sprintf("WidePolynomial(%v)", p), wide, code, nil, impl.ErrInvalid)
			continue
		}
		checkCoefficients(t, fmt.Sprintf("WidePolynomial(%v)", p), wide, code, wideList(p), impl.ErrNone)
		back, code := impl.NarrowPolynomial(wide)
		checkCoefficients(t, fmt.Sprintf("NarrowPolynomial(%v)", wide), wideList(back), code, wideList(p), impl.ErrNone)
		if t.Failed() {
			return
		}
	}
}

func TestProductsWithConstantsAreCommutative(t *testing.T) {
	r := newRandom(144)
	for range 3000 {
		p, q := anyPart(r, 0, 13), anyPart(r, 1, 1)
		list, code := impl.MultiplyParts(p, q)
		other, otherCode := impl.MultiplyParts(q, p)
		checkCoefficients(t, fmt.Sprintf("MultiplyParts(%v, %v)", p, q), list, code, other, otherCode)
	}
}

func TestPolynomialsComeBackFromTheirTexts(t *testing.T) {
	forPolynomials(t, 145, func(_ *rand.Rand, p []complex128) {
		text, code := impl.PolynomialText(p)
		if code != impl.ErrNone {
			t.Fatalf("PolynomialText(%v): code %d", p, code)
		}
		var want []complex128
		for _, z := range p {
			// The exact value of -0 is 0.
			want = append(want, complex(real(z)+0, imag(z)+0))
		}
		back, code := impl.ParsePolynomial(text)
		checkCoefficients(t, fmt.Sprintf("ParsePolynomial(%q)", text), back, code, want, impl.ErrNone)
	})
}

// exactNumber is a complex number that is not rounded.
type exactNumber struct {
	re, im *big.Rat
}

func exactNumberOf(z complex128) exactNumber {
	return exactNumber{new(big.Rat).SetFloat64(real(z)), new(big.Rat).SetFloat64(imag(z))}
}

func (a exactNumber) plus(b exactNumber) exactNumber {
	return exactNumber{new(big.Rat).Add(a.re, b.re), new(big.Rat).Add(a.im, b.im)}
}

func (a exactNumber) minus(b exactNumber) exactNumber {
	return exactNumber{new(big.Rat).Sub(a.re, b.re), new(big.Rat).Sub(a.im, b.im)}
}

func (a exactNumber) times(b exactNumber) exactNumber {
	mul := func(x, y *big.Rat) *big.Rat { return new(big.Rat).Mul(x, y) }
	return exactNumber{
		new(big.Rat).Sub(mul(a.re, b.re), mul(a.im, b.im)),
		new(big.Rat).Add(mul(a.re, b.im), mul(a.im, b.re)),
	}
}

// size is the sum of the absolute values of both parts.
func (a exactNumber) size() float64 {
	x, _ := new(big.Rat).Add(new(big.Rat).Abs(a.re), new(big.Rat).Abs(a.im)).Float64()
	return x
}

// The exact product of the divisor and the quotient, and the remainder, add up to the dividend, but
// for the rounding of as many operations as there are.
func TestPromise14DivisionsAgreeWithExactValues(t *testing.T) {
	r := newRandom(146)
	for range 1500 {
		p, q := mediumPolynomial(r), mediumPolynomial(r)
		quotient, remainder, code := impl.DividePolynomial(p, q)
		if code != impl.ErrNone {
			t.Fatalf("DividePolynomial(%v, %v): code %d", p, q, code)
		}
		if len(remainder) >= len(q) || len(quotient) > max(len(p)-len(q)+1, 0) {
			t.Fatalf("DividePolynomial(%v, %v) = %v, %v", p, q, quotient, remainder)
		}
		for n := range p {
			rest, sizes := exactNumberOf(p[n]), sizeOf(p[n])
			if n < len(remainder) {
				rest = rest.minus(exactNumberOf(remainder[n]))
				sizes += sizeOf(remainder[n])
			}
			for i := range q {
				if k := n - i; k >= 0 && k < len(quotient) {
					rest = rest.minus(exactNumberOf(q[i]).times(exactNumberOf(quotient[k])))
					sizes += sizeOf(q[i]) * sizeOf(quotient[k])
				}
			}
			if rest.size() > 1e-14*sizes {
				t.Fatalf("DividePolynomial(%v, %v): the coefficient %d is off by %g", p, q, n, rest.size())
			}
		}
	}
}

// mediumPolynomial has coefficients between 1/4 and 2.
func mediumPolynomial(r *rand.Rand) []complex128 {
	part := func() float64 { return math.Copysign(0.25+1.75*r.Float64(), r.Float64()-0.5) }
	var p []complex128
	for range 2 + r.IntN(12) {
		p = append(p, complex(part(), part()))
	}
	return p
}

// differentRoots gives whole complex numbers, all of them different.
func differentRoots(r *rand.Rand, count int) []complex128 {
	var roots []complex128
	for _, n := range r.Perm(25)[:count] {
		roots = append(roots, complex(float64(n%5-2), float64(n/5-2)))
	}
	return roots
}

func TestPromise14CommonPartsHaveTheCommonRoots(t *testing.T) {
	r := newRandom(147)
	for range 3000 {
		common, first, second := r.IntN(4), 1+r.IntN(2), 1+r.IntN(2)
		roots := differentRoots(r, common+first+second)
		p, _ := impl.PolynomialOfRoots(roots[:common+first])
		q, _ := impl.PolynomialOfRoots(append(append([]complex128{}, roots[:common]...), roots[common+first:]...))
		want := []complex128{1}
		if common > 0 {
			want, _ = impl.PolynomialOfRoots(roots[:common])
		}
		list, code := impl.CommonPart(p, q, 1e-9)
		if code != impl.ErrNone || len(list) != len(want) {
			t.Fatalf("CommonPart(%v, %v) = %v, %d, want %v", p, q, list, code, want)
		}
		for n := range list {
			if sizeOf(list[n]-want[n]) > 1e-9 {
				t.Fatalf("CommonPart(%v, %v) = %v, want %v", p, q, list, want)
			}
		}
	}
}

// If one polynomial is a multiple of the other one, which is monic, all numbers are exact.
func TestPromise14CommonPartsOfMultiplesAreExact(t *testing.T) {
	r := newRandom(148)
	for range 1000 {
		p := smallMonic(r, 2+r.IntN(6))
		multiple, _ := impl.MultiplyParts(p, smallMonic(r, 1+r.IntN(7)))
		for _, tolerance := range []float64{0, 0.5} {
			list, code := impl.CommonPart(multiple, p, tolerance)
			if same, _ := impl.EqualPolynomials(list, p); !same || code != impl.ErrNone {
				t.Fatalf("CommonPart(%v, %v, %g) = %v, %d", multiple, p, tolerance, list, code)
			}
		}
	}
}

// The polynomial of small whole roots has exact coefficients, and each deflation by one of the roots
// is exact and leaves the polynomial of the others.
func TestPromise14DeflationsByKnownRootsAreExact(t *testing.T) {
	r := newRandom(149)
	for range 1000 {
		roots := differentRoots(r, 2+r.IntN(7))
		p, _ := impl.PolynomialOfRoots(roots)
		for len(roots) > 1 {
			z := roots[0]
			roots = roots[1:]
			q, number, code := impl.DeflateBy(p, z)
			want, _ := impl.PolynomialOfRoots(roots)
			if number != 0 || code != impl.ErrNone || !slices.Equal(q, want) {
				t.Fatalf("DeflateBy(%v, %v) = %v, %v, %d, want %v", p, z, q, number, code, want)
			}
			p = q
		}
	}
}
