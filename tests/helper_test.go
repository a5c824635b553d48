package tests

import (
	"math"
	"math/big"
	"math/rand/v2"
	"testing"

	"loop.example/g01156/impl"
)

var (
	inf      = math.Inf(1)
	nan      = math.NaN()
	negative = math.Copysign(0, -1)
	huge     = math.MaxFloat64
	tiny     = math.SmallestNonzeroFloat64

	hugeNarrow     = float32(math.MaxFloat32)
	tinyNarrow     = float32(math.SmallestNonzeroFloat32)
	negativeNarrow = float32(math.Copysign(0, -1))
)

// cornerFloats are floats at the ends of their range, and where rounding has ties.
func cornerFloats() []float64 {
	positive := []float64{
		0, tiny, 3 * tiny, 0x1p-1023, 0x1p-1022, 0x1.fffffffffffffp-1022, 0x1p-537, 0x1p-150, 0x1p-149,
		0x1p-53, 0.1, 1 - 0x1p-53, 1, 1 + 0x1p-52, 1 + 0x1p-30, 1.5, 3, 0x1p53, 0x1p53 + 2,
		0x1.fffffep127, 0x1p128, 0x1.8p511, 0x1p512, 0x1p970, 0x1p1023, huge,
	}
	all := positive
	for _, x := range positive {
		all = append(all, -x)
	}
	return all
}

func sameFloat(x, y float64) bool {
	if math.IsNaN(x) || math.IsNaN(y) {
		return math.IsNaN(x) && math.IsNaN(y)
	}
	return x == y && math.Signbit(x) == math.Signbit(y)
}

func sameWide(a, b complex128) bool {
	return sameFloat(real(a), real(b)) && sameFloat(imag(a), imag(b))
}

func sameNarrow(a, b complex64) bool {
	return sameWide(complex128(a), complex128(b))
}

// newRandom gives the same numbers in each run.
func newRandom(seed uint64) *rand.Rand {
	return rand.New(rand.NewPCG(seed, 1156))
}

// anyFloat gives a finite float of one of several kinds: with any bits, a corner, a small whole
// number, or one of the order of 1.
func anyFloat(r *rand.Rand) float64 {
	switch r.IntN(8) {
	case 0, 1:
		for {
			if x := math.Float64frombits(r.Uint64()); x-x == 0 {
				return x
			}
		}
	case 2:
		corners := cornerFloats()
		return corners[r.IntN(len(corners))]
	case 3:
		return float64(r.IntN(21) - 10)
	default:
		return math.Ldexp(r.Float64()*2-1, r.IntN(8)-4)
	}
}

func anyWide(r *rand.Rand) complex128 {
	return complex(anyFloat(r), anyFloat(r))
}

func anyFloatNarrow(r *rand.Rand) float32 {
	if r.IntN(3) == 0 {
		for {
			if x := math.Float32frombits(r.Uint32()); x-x == 0 {
				return x
			}
		}
	}
	for {
		if x := float32(anyFloat(r)); x-x == 0 {
			return x
		}
	}
}

func anyNarrow(r *rand.Rand) complex64 {
	return complex(anyFloatNarrow(r), anyFloatNarrow(r))
}

// exact has so many bits that sums and products of floats are not rounded, and that quotients are
// on the right side of a tie.
func exact(x float64) *big.Float {
	return new(big.Float).SetPrec(5000).SetFloat64(x)
}

func rounded(x *big.Float) float64 {
	y, _ := x.Float64()
	return y
}

func allFinite(x, y float64) bool {
	return x-x == 0 && y-y == 0
}

// sumOf, productOf and quotientOf round the exact results of finite floats.
func sumOf(x, y float64) float64 {
	if !allFinite(x, y) {
		return x + y
	}
	return rounded(exact(x).Add(exact(x), exact(y)))
}

func productOf(x, y float64) float64 {
	if !allFinite(x, y) {
		return x * y
	}
	return rounded(exact(x).Mul(exact(x), exact(y)))
}

func quotientOf(x, y float64) float64 {
	if !allFinite(x, y) || y == 0 {
		return x / y
	}
	return rounded(exact(x).Quo(exact(x), exact(y)))
}

func productByParts(a, b complex128) complex128 {
	re := sumOf(productOf(real(a), real(b)), -productOf(imag(a), imag(b)))
	im := sumOf(productOf(real(a), imag(b)), productOf(imag(a), real(b)))
	return complex(re, im)
}

// quotientByParts is the quotient as the document writes it, operation by operation.
func quotientByParts(a, b complex128) complex128 {
	x, y, c, d := real(a), imag(a), real(b), imag(b)
	if math.Abs(c) >= math.Abs(d) {
		q := quotientOf(d, c)
		s := sumOf(c, productOf(q, d))
		return complex(quotientOf(sumOf(x, productOf(y, q)), s), quotientOf(sumOf(y, -productOf(x, q)), s))
	}
	q := quotientOf(c, d)
	s := sumOf(d, productOf(q, c))
	return complex(quotientOf(sumOf(productOf(x, q), y), s), quotientOf(sumOf(productOf(y, q), -x), s))
}

// codeOf is the code that goes with a result that is finite or not.
func codeOf(z complex128) int64 {
	if !allFinite(real(z), imag(z)) {
		return impl.ErrLimit
	}
	return impl.ErrNone
}

// checkWide compares a result with the number that is wanted, or with 0 if a code other than
// ErrNone is.
func checkWide(t *testing.T, name string, z complex128, code int64, want complex128, wantCode int64) {
	t.Helper()
	if wantCode != impl.ErrNone {
		want = 0
	}
	if !sameWide(z, want) || code != wantCode {
		t.Errorf("%s = %v, %d, want %v, %d", name, z, code, want, wantCode)
	}
}

func checkNarrow(t *testing.T, name string, z complex64, code int64, want complex64, wantCode int64) {
	t.Helper()
	checkWide(t, name, complex128(z), code, complex128(want), wantCode)
}

func checkFloat(t *testing.T, name string, x float64, code int64, want float64, wantCode int64) {
	t.Helper()
	checkWide(t, name, complex(x, 0), code, complex(want, 0), wantCode)
}
