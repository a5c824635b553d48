package tests

import (
	"fmt"
	"math"
	"testing"

	"loop.example/g01156/impl"
)

// forPairs calls check with pairs of wide numbers, all with corners as parts and random ones, until
// the test has failed.
func forPairs(t *testing.T, seed uint64, check func(a, b complex128)) {
	r := newRandom(seed)
	corners := cornerFloats()
	for _, x := range corners {
		for _, y := range corners {
			check(complex(x, 0), complex(y, 0))
			check(complex(x, y), complex(y, corners[r.IntN(len(corners))]))
		}
	}
	for range 20000 {
		a, b := anyWide(r), anyWide(r)
		if r.IntN(8) == 0 {
			b = complex(real(b), math.Copysign(real(b), imag(b)))
		}
		check(a, b)
		if t.Failed() {
			return
		}
	}
}

// forNarrowPairs calls check with random pairs of narrow numbers, until the test has failed.
func forNarrowPairs(t *testing.T, seed uint64, check func(a, b complex64)) {
	r := newRandom(seed)
	for range 20000 {
		a, b := anyNarrow(r), anyNarrow(r)
		if r.IntN(8) == 0 {
			b = complex(real(b), -real(b))
		}
		check(a, b)
		if t.Failed() {
			return
		}
	}
}

func TestPromise1SumsAndProductsAreCommutative(t *testing.T) {
	forPairs(t, 11, func(a, b complex128) {
		z, code := impl.AddWide(a, b)
		y, other := impl.AddWide(b, a)
		checkWide(t, fmt.Sprintf("AddWide(%v, %v)", a, b), z, code, y, other)
		z, code = impl.MultiplyWide(a, b)
		y, other = impl.MultiplyWide(b, a)
		checkWide(t, fmt.Sprintf("MultiplyWide(%v, %v)", a, b), z, code, y, other)
	})
	forNarrowPairs(t, 12, func(a, b complex64) {
		z, code := impl.AddNarrow(a, b)
		y, other := impl.AddNarrow(b, a)
		checkNarrow(t, fmt.Sprintf("AddNarrow(%v, %v)", a, b), z, code, y, other)
		z, code = impl.MultiplyNarrow(a, b)
		y, other = impl.MultiplyNarrow(b, a)
		checkNarrow(t, fmt.Sprintf("MultiplyNarrow(%v, %v)", a, b), z, code, y, other)
	})
}

func TestPromise1NarrowResultsAreWideOnesNarrowed(t *testing.T) {
	same := func(name string, z complex64, code int64, wide complex128, wideCode int64) {
		t.Helper()
		want, wantCode := complex64(0), wideCode
		if wideCode == impl.ErrNone {
			want, wantCode = impl.NarrowOf(wide)
		}
		checkNarrow(t, name, z, code, want, wantCode)
	}
	forNarrowPairs(t, 13, func(a, b complex64) {
		c, _ := impl.WidenOf(a)
		d, _ := impl.WidenOf(b)
		z, code := impl.MultiplyNarrow(a, b)
		wide, wideCode := impl.MultiplyWide(c, d)
		same(fmt.Sprintf("MultiplyNarrow(%v, %v)", a, b), z, code, wide, wideCode)
		z, code = impl.DivideNarrow(a, b)
		wide, wideCode = impl.DivideWide(c, d)
		same(fmt.Sprintf("DivideNarrow(%v, %v)", a, b), z, code, wide, wideCode)
	})
}

func TestPromise1ConjugatesOfProducts(t *testing.T) {
	forPairs(t, 14, func(a, b complex128) {
		c, _ := impl.ConjugateOf(a)
		d, _ := impl.ConjugateOf(b)
		z, code := impl.MultiplyWide(a, b)
		y, other := impl.MultiplyWide(c, d)
		if code != other {
			t.Fatalf("the product of %v and %v has the code %d, that of the conjugates %d", a, b, code, other)
		}
		if z, _ = impl.ConjugateOf(z); code == impl.ErrNone && z != y {
			t.Errorf("the product of %v and %v has the conjugate %v, not %v", a, b, z, y)
		}
	})
}

func TestNarrowNumbersComeBack(t *testing.T) {
	forNarrowPairs(t, 15, func(a, b complex64) {
		wide, code := impl.WidenOf(a)
		checkWide(t, fmt.Sprintf("WidenOf(%v)", a), wide, code, complex(float64(real(a)), float64(imag(a))), impl.ErrNone)
		if is, code := impl.IsExactNarrow(wide); !is || code != impl.ErrNone {
			t.Errorf("IsExactNarrow(%v) = %v, %d", wide, is, code)
		}
		narrow, code := impl.NarrowOf(wide)
		checkNarrow(t, fmt.Sprintf("NarrowOf(%v)", wide), narrow, code, a, impl.ErrNone)
	})
}

func TestQuotientsByThemselves(t *testing.T) {
	forPairs(t, 16, func(a, b complex128) {
		if z, code := impl.DivideWide(a, a); code == impl.ErrNone && real(z) != 1 {
			t.Errorf("DivideWide(%v, %v) = %v", a, a, z)
		}
	})
}

func TestQuotientsOperationByOperation(t *testing.T) {
	forPairs(t, 17, func(a, b complex128) {
		z, code := impl.DivideWide(a, b)
		if b == 0 {
			checkWide(t, fmt.Sprintf("DivideWide(%v, %v)", a, b), z, code, 0, impl.ErrState)
			return
		}
		want := quotientByParts(a, b)
		checkWide(t, fmt.Sprintf("DivideWide(%v, %v)", a, b), z, code, want, codeOf(want))
	})
}

// Chapter 1 adds to promise 8 that squares of small integers, and sizes of them, are exact.
func TestPromise8SquaresOfSmallIntegers(t *testing.T) {
	for x := -30; x <= 30; x++ {
		for y := -30; y <= 30; y++ {
			z := complex(float64(x), float64(y))
			square := complex(float64(x*x-y*y), float64(2*x*y))
			if got, code := impl.MultiplyWide(z, z); got != square || code != impl.ErrNone {
				t.Errorf("MultiplyWide(%v, %v) = %v, %d", z, z, got, code)
			}
			if got, code := impl.PowerWide(z, 2); got != square || code != impl.ErrNone {
				t.Errorf("PowerWide(%v, 2) = %v, %d", z, got, code)
			}
			if got, code := impl.SizeOf(z); got != float64(max(x, -x)+max(y, -y)) || code != impl.ErrNone {
				t.Errorf("SizeOf(%v) = %v, %d", z, got, code)
			}
		}
	}
}

func TestPromise13WideResultsAreExactOnesRounded(t *testing.T) {
	forPairs(t, 18, func(a, b complex128) {
		sum := complex(sumOf(real(a), real(b)), sumOf(imag(a), imag(b)))
		z, code := impl.AddWide(a, b)
		checkWide(t, fmt.Sprintf("AddWide(%v, %v)", a, b), z, code, sum, codeOf(sum))

		difference := complex(sumOf(real(a), -real(b)), sumOf(imag(a), -imag(b)))
		z, code = impl.SubtractWide(a, b)
		checkWide(t, fmt.Sprintf("SubtractWide(%v, %v)", a, b), z, code, difference, codeOf(difference))

		product := productByParts(a, b)
		z, code = impl.MultiplyWide(a, b)
		checkWide(t, fmt.Sprintf("MultiplyWide(%v, %v)", a, b), z, code, product, codeOf(product))

		size := sumOf(math.Abs(real(a)), math.Abs(imag(a)))
		x, code := impl.SizeOf(a)
		checkFloat(t, fmt.Sprintf("SizeOf(%v)", a), x, code, size, codeOf(complex(size, 0)))
	})
}

// narrowSumOf rounds the exact sum to 32 bits.
func narrowSumOf(x, y float32) float32 {
	z, _ := exact(float64(x)).Add(exact(float64(x)), exact(float64(y))).Float32()
	return z
}

func TestPromise13NarrowSumsAreExactOnesRounded(t *testing.T) {
	forNarrowPairs(t, 19, func(a, b complex64) {
		sum := complex(narrowSumOf(real(a), real(b)), narrowSumOf(imag(a), imag(b)))
		z, code := impl.AddNarrow(a, b)
		checkNarrow(t, fmt.Sprintf("AddNarrow(%v, %v)", a, b), z, code, sum, codeOf(complex128(sum)))

		difference := complex(narrowSumOf(real(a), -real(b)), narrowSumOf(imag(a), -imag(b)))
		z, code = impl.SubtractNarrow(a, b)
		checkNarrow(t, fmt.Sprintf("SubtractNarrow(%v, %v)", a, b), z, code, difference, codeOf(complex128(difference)))

		size := narrowSumOf(max(real(a), -real(a)), max(imag(a), -imag(a)))
		x, code := impl.SizeOfNarrow(a)
		checkFloat(t, fmt.Sprintf("SizeOfNarrow(%v)", a), float64(x), code, float64(size), codeOf(complex(float64(size), 0)))
	})
}

func TestNumbersNarrowed(t *testing.T) {
	forPairs(t, 20, func(a, b complex128) {
		re, _ := exact(real(a)).Float32()
		im, _ := exact(imag(a)).Float32()
		want := complex(re, im)
		z, code := impl.NarrowOf(a)
		checkNarrow(t, fmt.Sprintf("NarrowOf(%v)", a), z, code, want, codeOf(complex128(want)))
		if is, code := impl.IsExactNarrow(a); is != (complex128(want) == a) || code != impl.ErrNone {
			t.Errorf("IsExactNarrow(%v) = %v, %d", a, is, code)
		}
	})
}
