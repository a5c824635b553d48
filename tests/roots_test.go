package tests

import (
	"fmt"
	"math"
	"math/big"
	"math/rand/v2"
	"testing"

	"loop.example/g01156/impl"
)

// floatCase is a float with its square root.
type floatCase struct {
	x, want float64
	code    int64
}

func TestRootOfFloat(t *testing.T) {
	for _, c := range []floatCase{
		{2.25, 1.5, impl.ErrNone},
		{0, 0, impl.ErrNone},
		{negative, negative, impl.ErrNone},
		{1, 1, impl.ErrNone},
		{2, 0x1.6a09e667f3bcdp0, impl.ErrNone},
		{3, 0x1.bb67ae8584caap0, impl.ErrNone},
		{0.25, 0.5, impl.ErrNone},
		{8.1e15, 9e7, impl.ErrNone},
		// The least and the greatest floats, and subnormal ones.
		{tiny, 0x1p-537, impl.ErrNone},
		{2 * tiny, 0x1.6a09e667f3bcdp-537, impl.ErrNone},
		{3 * tiny, 0x1.bb67ae8584caap-537, impl.ErrNone},
		{9 * tiny, 0x1.8p-536, impl.ErrNone},
		{0x1p-1022, 0x1p-511, impl.ErrNone},
		{0x1p-1024, 0x1p-512, impl.ErrNone},
		{0x1p-1022 - tiny, 0x1.fffffffffffffp-512, impl.ErrNone},
		{huge, 0x1.fffffffffffffp511, impl.ErrNone},
		{0x1p1023, 0x1.6a09e667f3bcdp511, impl.ErrNone},
		{0x1p1022, 0x1p511, impl.ErrNone},
		// Neighbours of squares.
		{1 + 0x1p-52, 1, impl.ErrNone},
		{1 + 0x1p-51, 1 + 0x1p-52, impl.ErrNone},
		{1 - 0x1p-53, 1 - 0x1p-53, impl.ErrNone},
		{4 + 0x1p-50, 2, impl.ErrNone},
		{4 - 0x1p-51, 2 - 0x1p-52, impl.ErrNone},
		{8.1e15 + 1, 9e7, impl.ErrNone},
		{8.1e15 - 1, 9e7, impl.ErrNone},
		{8.1e15 + 2, 9e7 + 0x1p-26, impl.ErrNone},
		{-tiny, 0, impl.ErrRange},
		{-1, 0, impl.ErrRange},
		{-4, 0, impl.ErrRange},
		{-huge, 0, impl.ErrRange},
		{nan, 0, impl.ErrInvalid},
		{inf, 0, impl.ErrInvalid},
		{-inf, 0, impl.ErrInvalid},
	} {
		x, code := impl.RootOfFloat(c.x)
		checkFloat(t, fmt.Sprintf("RootOfFloat(%g)", c.x), x, code, c.want, c.code)
	}
}

func TestRootOfFloatNarrow(t *testing.T) {
	for _, c := range []floatCase{
		{6.25, 2.5, impl.ErrNone},
		{2.25, 1.5, impl.ErrNone},
		{0, 0, impl.ErrNone},
		{negative, negative, impl.ErrNone},
		{1, 1, impl.ErrNone},
		{2, 0x1.6a09e6p0, impl.ErrNone},
		{3, 0x1.bb67aep0, impl.ErrNone},
		{0x1p24, 0x1p12, impl.ErrNone},
		// The least and the greatest floats, and subnormal ones.
		{float64(tinyNarrow), 0x1.6a09e6p-75, impl.ErrNone},
		{0x1p-148, 0x1p-74, impl.ErrNone},
		{0x3p-149, 0x1.3988e2p-74, impl.ErrNone},
		{0x1p-126, 0x1p-63, impl.ErrNone},
		{0x1p-126 - 0x1p-149, 0x1.fffffep-64, impl.ErrNone},
		{float64(hugeNarrow), 0x1.fffffep63, impl.ErrNone},
		{0x1p127, 0x1.6a09e6p63, impl.ErrNone},
		{0x1p126, 0x1p63, impl.ErrNone},
		// Neighbours of squares.
		{1 + 0x1p-23, 1, impl.ErrNone},
		{1 + 0x1p-22, 1 + 0x1p-23, impl.ErrNone},
		{1 - 0x1p-24, 1 - 0x1p-24, impl.ErrNone},
		{4 - 0x1p-22, 2 - 0x1p-23, impl.ErrNone},
		{-float64(tinyNarrow), 0, impl.ErrRange},
		{-4, 0, impl.ErrRange},
		{-float64(hugeNarrow), 0, impl.ErrRange},
		{nan, 0, impl.ErrInvalid},
		{inf, 0, impl.ErrInvalid},
		{-inf, 0, impl.ErrInvalid},
	} {
		x, code := impl.RootOfFloatNarrow(float32(c.x))
		checkFloat(t, fmt.Sprintf("RootOfFloatNarrow(%g)", c.x), float64(x), code, c.want, c.code)
	}
}

// besideSquare gives a float that is a square or one beside it, or any float, of at least 0.
func besideSquare(r *rand.Rand) float64 {
	root := math.Ldexp(float64(1+r.Int64N(1<<26)), r.IntN(1000)-550)
	switch r.IntN(3) {
	case 0:
		return math.Abs(anyFloat(r))
	case 1:
		root = math.Ldexp(1+r.Float64(), r.IntN(1020)-520)
	}
	x := root * root
	for range r.IntN(3) {
		x = math.Nextafter(x, []float64{0, huge}[r.IntN(2)])
	}
	return x
}

func TestRootsOfFloatsAreNearest(t *testing.T) {
	r := newRandom(301)
	for range 20000 {
		x := besideSquare(r)
		root, code := impl.RootOfFloat(x)
		checkFloat(t, fmt.Sprintf("RootOfFloat(%g)", x), root, code, rootOf(x), impl.ErrNone)
		narrow := float32(x)
		if narrow-narrow != 0 {
			narrow = float32(math.Abs(float64(anyFloatNarrow(r))))
		}
		narrowRoot, code := impl.RootOfFloatNarrow(narrow)
		want := float64(narrow)
		if want != 0 {
			nearest, _ := exactRootOf(valueOf(want)).Float32()
			want = float64(nearest)
		}
		checkFloat(t, fmt.Sprintf("RootOfFloatNarrow(%g)", narrow), float64(narrowRoot), code, want, impl.ErrNone)
	}
}

// All subnormal narrow floats of few bits, and all narrow floats beside squares of small numbers.
func TestRootsOfNarrowFloatsBesideSquares(t *testing.T) {
	for n := 1; n <= 4096; n++ {
		for _, x := range []float32{float32(n) * float32(n), float32(n) * tinyNarrow} {
			for _, beside := range []float32{x, math.Nextafter32(x, 0), math.Nextafter32(x, hugeNarrow)} {
				if beside == 0 {
					continue
				}
				want, _ := exactRootOf(valueOf(float64(beside))).Float32()
				root, code := impl.RootOfFloatNarrow(beside)
				checkFloat(t, fmt.Sprintf("RootOfFloatNarrow(%g)", beside), float64(root), code, float64(want), impl.ErrNone)
			}
		}
	}
}

// modulusCase is a number with its modulus.
type modulusCase struct {
	z    complex128
	want float64
	code int64
}

// checkModulus checks the modulus of a number, and of those with other signs and with parts changed.
func checkModulus(t *testing.T, c modulusCase) {
	t.Helper()
	x, y := real(c.z), imag(c.z)
	for _, z := range []complex128{c.z, -c.z, complex(x, -y), complex(-x, y), complex(y, x), complex(-y, x), complex(y, -x), complex(-y, -x)} {
		m, code := impl.ModulusOf(z)
		checkFloat(t, fmt.Sprintf("ModulusOf(%v)", z), m, code, c.want, c.code)
	}
}

func TestModulusOf(t *testing.T) {
	none, limit := int64(impl.ErrNone), int64(impl.ErrLimit)
	for _, c := range []modulusCase{
		{3 + 4i, 5, none},
		{0, 0, none},
		{complex(negative, negative), 0, none},
		{7, 7, none},
		{5 + 12i, 13, none},
		{1 + 1i, 0x1.6a09e667f3bcdp0, none},
		{0.75 + 1i, 1.25, none},
		// Squares that are too large or too small for floats.
		{complex(0x3p700, 0x4p700), 0x5p700, none},
		{complex(0x3p-700, 0x4p-700), 0x5p-700, none},
		{complex(1e200, 1e-200), 1e200, none},
		{complex(0x1p600, 0x1p600), 0x1.6a09e667f3bcdp600, none},
		// The least parts.
		{complex(tiny, 0), tiny, none},
		{complex(tiny, tiny), tiny, none},
		{complex(tiny, 2*tiny), 2 * tiny, none},
		{complex(2*tiny, 2*tiny), 3 * tiny, none},
		{complex(3*tiny, 4*tiny), 5 * tiny, none},
		{complex(4*tiny, 5*tiny), 6 * tiny, none},
		{complex(1, tiny), 1, none},
		{complex(0x1p-1022, tiny), 0x1p-1022, none},
		{complex(0x1p-1023, 0x1p-1023), 0x1.6a09e667f3bccp-1023, none},
		// The greatest parts, and numbers whose modulus would be infinite by rounding.
		{complex(huge, 0), huge, none},
		{complex(huge, tiny), huge, none},
		{complex(huge, 0x1p997), huge, none},
		{complex(huge, 0x1p998), 0, limit},
		{complex(huge, huge), 0, limit},
		{complex(0x1p1023, 0x1p1023), 0x1.6a09e667f3bcdp1023, none},
		{complex(0x1.8p1023, 0x1.8p1023), 0, limit},
		{complex(0x1p1023, 0x1.bb67ae8584ca9p1023), huge, none},
		// The exact modulus is less than 2^1024, but nearer to it than to the greatest float.
		{complex(0x1p1023, 0x1.bb67ae8584caap1023), 0, limit},
	} {
		checkModulus(t, c)
	}
	for _, z := range notFinites {
		m, code := impl.ModulusOf(z)
		checkFloat(t, fmt.Sprintf("ModulusOf(%v)", z), m, code, 0, impl.ErrInvalid)
	}
}

// Moduli of 3 k and 4 k that are half way between two floats: the one with an even mantissa is taken.
func TestModuliTiesToEven(t *testing.T) {
	r := newRandom(302)
	up := 0
	for i := range 2000 {
		k := 1801439850948199 + 2*r.Int64N(600000000000000)
		if i < 8 {
			k = 1801439850948199 + 2*int64(i)
		}
		middle := 5 * k
		want := middle - 1
		if want&2 != 0 {
			want = middle + 1
			up++
		}
		for _, e := range []int{0, -300, 400, 970, -1072} {
			z := complex(math.Ldexp(float64(3*k), e), math.Ldexp(float64(4*k), e))
			checkModulus(t, modulusCase{z, math.Ldexp(float64(want), e), impl.ErrNone})
		}
	}
	if up < 800 || up > 1200 {
		t.Errorf("%d of 2000 ties are rounded up", up)
	}
}

// The greatest imaginary part beside the greatest float with which the modulus is not infinite.
func TestModuliAtTheEndOfFloats(t *testing.T) {
	middle := binary{big.NewInt(1<<54 - 1), 970}
	gap := minus(times(middle, middle), times(valueOf(huge), valueOf(huge)))
	y := rounded(exactRootOf(gap))
	if compare(times(valueOf(y), valueOf(y)), gap) >= 0 {
		y = math.Nextafter(y, 0)
	}
	checkModulus(t, modulusCase{complex(huge, y), huge, impl.ErrNone})
	checkModulus(t, modulusCase{complex(huge, math.Nextafter(y, huge)), 0, impl.ErrLimit})
	below := math.Nextafter(huge, 0)
	checkModulus(t, modulusCase{complex(below, y), huge, impl.ErrNone})
}

// besideModulus gives a number whose modulus is beside a float or half way between two of them.
func besideModulus(r *rand.Rand) complex128 {
	x := math.Ldexp(1+r.Float64(), r.IntN(2000)-1000)
	half := math.Nextafter(x, huge) - x
	y := math.Sqrt(x) * math.Sqrt(half*float64(1+r.IntN(4)))
	for range r.IntN(4) {
		y = math.Nextafter(y, []float64{0, huge}[r.IntN(2)])
	}
	return complex(x, y)
}

func TestModuliAreNearest(t *testing.T) {
	r := newRandom(303)
	otherwise, limits := 0, 0
	for range 20000 {
		z := anyWide(r)
		switch r.IntN(5) {
		case 0:
			z = besideModulus(r)
		case 1:
			z = spreadNumbers(r, 1, -3, 3)[0]
		case 2:
			z = spreadNumbers(r, 1, -1074, -1000)[0]
		case 3:
			z = spreadNumbers(r, 1, 1020, 1024)[0]
		}
		want := modulusByParts(z)
		code := codeOf(complex(want, 0))
		checkModulus(t, modulusCase{z, want, code})
		if code != impl.ErrNone {
			limits++
		} else if math.Hypot(real(z), imag(z)) != want {
			otherwise++
		}
		if t.Failed() {
			return
		}
	}
	if otherwise < 500 || limits < 100 {
		t.Errorf("just %d moduli are other than those of package math, and %d are infinite", otherwise, limits)
	}
}

// The modulus is nearest to the exact root: no neighbour is nearer.
func TestModuliHaveNoNearerNeighbours(t *testing.T) {
	r := newRandom(304)
	for range 3000 {
		z := besideModulus(r)
		m, code := impl.ModulusOf(z)
		square := squareSum(z)
		for _, side := range []float64{0, inf} {
			other := math.Nextafter(m, side)
			middle := plus(valueOf(m), valueOf(other))
			middle.exponent--
			order := compare(times(middle, middle), square)
			if code != impl.ErrNone || order == 0 && math.Float64bits(m)&1 != 0 || side == 0 && order > 0 || side > 0 && order < 0 {
				t.Fatalf("ModulusOf(%v) = %g, %d: %g is nearer", z, m, code, other)
			}
		}
	}
}
