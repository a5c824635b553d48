package tests

import (
	"fmt"
	"testing"

	"loop.example/g01156/impl"
)

type narrowCase struct {
	a, b, want complex64
	code       int64
}

func checkNarrowCases(t *testing.T, name string, f func(complex64, complex64) (complex64, int64), cases []narrowCase) {
	t.Helper()
	for _, c := range cases {
		z, code := f(c.a, c.b)
		checkNarrow(t, fmt.Sprintf("%s(%v, %v)", name, c.a, c.b), z, code, c.want, c.code)
	}
}

func TestIsFiniteNarrow(t *testing.T) {
	for _, x := range []float32{0, negativeNarrow, tinyNarrow, -0.1, hugeNarrow, -hugeNarrow} {
		if !impl.IsFiniteNarrow(complex(x, 1)) || !impl.IsFiniteNarrow(complex(0, x)) {
			t.Errorf("%v is not told to be finite", x)
		}
	}
	for _, x := range []float32{float32(inf), float32(-inf), float32(nan)} {
		if impl.IsFiniteNarrow(complex(x, 1)) || impl.IsFiniteNarrow(complex(0, x)) || impl.IsFiniteNarrow(complex(x, x)) {
			t.Errorf("%v is told to be finite", x)
		}
	}
}

func TestAddNarrow(t *testing.T) {
	checkNarrowCases(t, "AddNarrow", impl.AddNarrow, []narrowCase{
		{1 + 2i, 3 - 5i, 4 - 3i, impl.ErrNone},
		{complex(negativeNarrow, negativeNarrow), complex(negativeNarrow, 0), complex(negativeNarrow, 0), impl.ErrNone},
		{1 - 1i, -1 + 1i, 0, impl.ErrNone},
		{1, 0x1p-24, 1, impl.ErrNone},
		{1 + 0x1p-23, 0x1p-24, 1 + 0x1p-22, impl.ErrNone},
		{0x1p24, 1, 0x1p24, impl.ErrNone},
		{complex(tinyNarrow, 0), complex(tinyNarrow, 0), complex(2*tinyNarrow, 0), impl.ErrNone},
		{complex(hugeNarrow, 0), 0x1p102, complex(hugeNarrow, 0), impl.ErrNone},
		{complex(hugeNarrow, 0), 0x1p103, 0, impl.ErrLimit},
		{complex(0, -hugeNarrow), complex(0, -hugeNarrow), 0, impl.ErrLimit},
	})
}

func TestSubtractNarrow(t *testing.T) {
	checkNarrowCases(t, "SubtractNarrow", impl.SubtractNarrow, []narrowCase{
		{1 + 2i, 3 - 5i, -2 + 7i, impl.ErrNone},
		{complex(negativeNarrow, 0), complex(0, negativeNarrow), complex(negativeNarrow, 0), impl.ErrNone},
		{1 + 1i, 1 + 1i, 0, impl.ErrNone},
		{1, 0x1p-25, 1, impl.ErrNone},
		{complex(0x1p-126, 0), complex(tinyNarrow, tinyNarrow), complex(0x1p-126-tinyNarrow, -tinyNarrow), impl.ErrNone},
		{complex(hugeNarrow, 0), complex(-hugeNarrow, 0), 0, impl.ErrLimit},
		{complex(0, -hugeNarrow), complex(0, hugeNarrow), 0, impl.ErrLimit},
	})
}

func TestMultiplyNarrow(t *testing.T) {
	checkNarrowCases(t, "MultiplyNarrow", impl.MultiplyNarrow, []narrowCase{
		{1 + 2i, 3 - 5i, 13 + 1i, impl.ErrNone},
		// The products of parts are not rounded to 32 bits before they are subtracted.
		{complex(1+0x1p-12, 1+0x1p-11), complex(1+0x1p-12, 1), complex(0x1p-24, 2+0x1p-10), impl.ErrNone},
		// A product of parts is too large for 32 bits, but both parts of the result are not.
		{complex(0x1p64, 0x1.cp62), complex(0x1.2p64, 0x1.cp62), complex(0x1.dep127, 0x1.dcp127), impl.ErrNone},
		{complex(0x1p64, 0x1p64), complex(0x1p64, 0x1p64), 0, impl.ErrLimit},
		{complex(0x1p64, 0x1p64), complex(0x1p64, -0x1p64), 0, impl.ErrLimit},
		{complex(0x1p-75, 0), complex(0x1p-75, 0), 0, impl.ErrNone},
		{complex(-0x1p-75, 0), complex(0x1p-75, 0), complex(negativeNarrow, 0), impl.ErrNone},
		{complex(0x1p-75, 0), complex(0x1.8p-75, 0), complex(tinyNarrow, 0), impl.ErrNone},
		{complex(hugeNarrow, 0), 1, complex(hugeNarrow, 0), impl.ErrNone},
		{complex(hugeNarrow, 0), complex(1+0x1p-23, 0), 0, impl.ErrLimit},
		{1, complex(1, negativeNarrow), 1, impl.ErrNone},
	})
}

func TestDivideNarrow(t *testing.T) {
	checkNarrowCases(t, "DivideNarrow", impl.DivideNarrow, []narrowCase{
		{1 + 3i, 1 + 1i, 2 + 1i, impl.ErrNone},
		{5 + 10i, 2 + 1i, 4 + 3i, impl.ErrNone},
		{5 + 10i, 1 + 2i, 5, impl.ErrNone},
		{1, 3, complex(float32(1.0/3), 0), impl.ErrNone},
		{0, 1 - 1i, 0, impl.ErrNone},
		{0, -1 - 1i, complex(negativeNarrow, negativeNarrow), impl.ErrNone},
		// Within the quotient nothing is too large for 64 bits.
		{1, complex(hugeNarrow, hugeNarrow), complex(0x1p-129, -0x1p-129), impl.ErrNone},
		{complex(hugeNarrow, hugeNarrow), complex(hugeNarrow, hugeNarrow), 1, impl.ErrNone},
		{complex(tinyNarrow, 0), 2, 0, impl.ErrNone},
		{complex(tinyNarrow, 0), -2, complex(negativeNarrow, negativeNarrow), impl.ErrNone},
		{complex(hugeNarrow, 0), 0.5, 0, impl.ErrLimit},
		{1i, complex(tinyNarrow, 0), 0, impl.ErrLimit},
		{1, 0, 0, impl.ErrState},
		{0, complex(negativeNarrow, 0), 0, impl.ErrState},
		{1, complex(negativeNarrow, negativeNarrow), 0, impl.ErrState},
		{complex(float32(inf), 0), 0, 0, impl.ErrInvalid},
		{complex(0, float32(nan)), complex(0, negativeNarrow), 0, impl.ErrInvalid},
	})
}

func TestWidenOf(t *testing.T) {
	for _, z := range []complex64{0.5 - 2i, complex(negativeNarrow, tinyNarrow), complex(hugeNarrow, -0.1)} {
		wide, code := impl.WidenOf(z)
		checkWide(t, fmt.Sprintf("WidenOf(%v)", z), wide, code, complex(float64(real(z)), float64(imag(z))), impl.ErrNone)
	}
}

func TestNarrowOf(t *testing.T) {
	cases := []struct {
		z    complex128
		want complex64
		code int64
	}{
		{0.1, complex(float32(0.1), 0), impl.ErrNone},
		{0.5 - 3i, 0.5 - 3i, impl.ErrNone},
		{complex(negative, 0), complex(negativeNarrow, 0), impl.ErrNone},
		{1 + 0x1p-24, 1, impl.ErrNone},
		{1 + 0x1p-24 + 0x1p-52, 1 + 0x1p-23, impl.ErrNone},
		{1 + 0x1p-23 + 0x1p-24, 1 + 0x1p-22, impl.ErrNone},
		{0x1p-149, complex(tinyNarrow, 0), impl.ErrNone},
		{0x1p-150, 0, impl.ErrNone},
		{-0x1p-150, complex(negativeNarrow, 0), impl.ErrNone},
		{0x1.0000000000001p-150, complex(tinyNarrow, 0), impl.ErrNone},
		{complex(-tiny, tiny), complex(negativeNarrow, 0), impl.ErrNone},
		{0x1.fffffep127, complex(hugeNarrow, 0), impl.ErrNone},
		{0x1.fffffefffffffp127, complex(hugeNarrow, 0), impl.ErrNone},
		{0x1.ffffffp127, 0, impl.ErrLimit},
		{complex(0, -0x1p128), 0, impl.ErrLimit},
		{complex(1, 1e300), 0, impl.ErrLimit},
		{complex(-huge, 0), 0, impl.ErrLimit},
		{complex(inf, 0), 0, impl.ErrInvalid},
		{complex(huge, nan), 0, impl.ErrInvalid},
	}
	for _, c := range cases {
		z, code := impl.NarrowOf(c.z)
		checkNarrow(t, fmt.Sprintf("NarrowOf(%v)", c.z), z, code, c.want, c.code)
	}
}

func TestIsExactNarrow(t *testing.T) {
	cases := []struct {
		z    complex128
		want bool
		code int64
	}{
		{0.5 - 3i, true, impl.ErrNone},
		{0.1, false, impl.ErrNone},
		{0.1i, false, impl.ErrNone},
		{complex(negative, 0), true, impl.ErrNone},
		{complex(negative, negative), true, impl.ErrNone},
		{0x1p24, true, impl.ErrNone},
		{0x1p24 + 1, false, impl.ErrNone},
		{complex(0x1p-149, -0x1p-149), true, impl.ErrNone},
		{0x1p-150, false, impl.ErrNone},
		{complex(0, tiny), false, impl.ErrNone},
		{complex(0x1.fffffep127, -0x1.fffffep127), true, impl.ErrNone},
		{0x1.ffffffp127, false, impl.ErrNone},
		{complex(0, 1e300), false, impl.ErrNone},
		{complex(-huge, 0.1), false, impl.ErrNone},
		{complex(inf, 0), false, impl.ErrInvalid},
		{complex(0, -inf), false, impl.ErrInvalid},
		{complex(nan, 1), false, impl.ErrInvalid},
	}
	for _, c := range cases {
		if is, code := impl.IsExactNarrow(c.z); is != c.want || code != c.code {
			t.Errorf("IsExactNarrow(%v) = %v, %d, want %v, %d", c.z, is, code, c.want, c.code)
		}
	}
}

func TestSizeOfNarrow(t *testing.T) {
	cases := []struct {
		z    complex64
		want float32
		code int64
	}{
		{-3 + 4i, 7, impl.ErrNone},
		{3 - 4i, 7, impl.ErrNone},
		{complex(negativeNarrow, negativeNarrow), 0, impl.ErrNone},
		{complex(1, 0x1p-24), 1, impl.ErrNone},
		{complex(-0x1p24, 1), 0x1p24, impl.ErrNone},
		{complex(tinyNarrow, -tinyNarrow), 2 * tinyNarrow, impl.ErrNone},
		{complex(-hugeNarrow, 0x1p102), hugeNarrow, impl.ErrNone},
		{complex(-hugeNarrow, 0x1p103), 0, impl.ErrLimit},
		{complex(hugeNarrow, -hugeNarrow), 0, impl.ErrLimit},
	}
	for _, c := range cases {
		x, code := impl.SizeOfNarrow(c.z)
		checkFloat(t, fmt.Sprintf("SizeOfNarrow(%v)", c.z), float64(x), code, float64(c.want), c.code)
	}
}

func TestNarrowNumbersMustBeFinite(t *testing.T) {
	two := map[string]func(complex64, complex64) (complex64, int64){
		"AddNarrow": impl.AddNarrow, "SubtractNarrow": impl.SubtractNarrow,
		"MultiplyNarrow": impl.MultiplyNarrow, "DivideNarrow": impl.DivideNarrow,
	}
	for _, x := range []float32{float32(inf), float32(-inf), float32(nan)} {
		for _, bad := range []complex64{complex(x, 1), complex(1, x), complex(x, x)} {
			for name, f := range two {
				z, code := f(bad, 1)
				checkNarrow(t, fmt.Sprintf("%s(%v, 1)", name, bad), z, code, 0, impl.ErrInvalid)
				z, code = f(1, bad)
				checkNarrow(t, fmt.Sprintf("%s(1, %v)", name, bad), z, code, 0, impl.ErrInvalid)
			}
			wide, code := impl.WidenOf(bad)
			checkWide(t, fmt.Sprintf("WidenOf(%v)", bad), wide, code, 0, impl.ErrInvalid)
			size, code := impl.SizeOfNarrow(bad)
			checkFloat(t, fmt.Sprintf("SizeOfNarrow(%v)", bad), float64(size), code, 0, impl.ErrInvalid)
			narrow, code := impl.NarrowOf(complex128(bad))
			checkNarrow(t, fmt.Sprintf("NarrowOf(%v)", bad), narrow, code, 0, impl.ErrInvalid)
		}
	}
}
