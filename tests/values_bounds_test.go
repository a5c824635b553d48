package tests

import (
	"fmt"
	"math"
	"testing"

	"loop.example/g01156/impl"
)

type boundCase struct {
	p        []complex128
	z, value complex128
	bound    float64
	code     int64
}

func checkBound(t *testing.T, c boundCase) {
	t.Helper()
	name := fmt.Sprintf("ValueWithBound(%v, %v)", c.p, c.z)
	value, bound, code := impl.ValueWithBound(c.p, c.z)
	checkWide(t, name, value, code, c.value, c.code)
	checkFloat(t, name+", bound,", bound, code, c.bound, c.code)
}

func TestValueWithBound(t *testing.T) {
	for _, c := range []boundCase{
		// 12 u f, where u is 2^-53; then 24 u, and with 12 u f, and all of it times f, 36 u + 48 u / 2^40.
		{[]complex128{2, -3, 1}, 1i, 1 - 3i, 36*0x1p-53 + 48*0x1p-93, impl.ErrNone},
		// 8 u f, and then 14 u more, and all of it times f; 8 u / 2^80 is too little to count.
		{[]complex128{1, 1, 1}, 1, 3, 22*0x1p-53 + 30*0x1p-93, impl.ErrNone},
		{[]complex128{0.5, 2}, 0.25, 1, 4*0x1p-53 + 4*0x1p-93, impl.ErrNone},
		{[]complex128{3i, -4 + 3i}, -1 + 1i, 1 - 4i, 66*0x1p-53 + 66*0x1p-93, impl.ErrNone},
		// At 0 just the last step counts.
		{[]complex128{3 - 4i, 5, 1}, 0, 3 - 4i, 14*0x1p-53 + 14*0x1p-93, impl.ErrNone},
		{[]complex128{3 - 4i, 5, 1}, complex(negative, negative), 3 - 4i, 14*0x1p-53 + 14*0x1p-93, impl.ErrNone},
		{[]complex128{0, 1}, 0, 0, 0x1p-1060, impl.ErrNone},
		{[]complex128{0, 0, 1}, 0, 0, 0x1p-1060, impl.ErrNone},
		// Products that vanish: a s, the product with u, and e s.
		{[]complex128{complex(tiny, 0), complex(tiny, 0)}, complex(tiny, 0), complex(tiny, 0), 0x1p-1060, impl.ErrNone},
		{[]complex128{0, 0x1p-600}, 0x1p-600, 0, 0x1p-1060, impl.ErrNone},
		{[]complex128{0, complex(tiny, 0)}, 2, complex(2*tiny, 0), 0x1p-1060, impl.ErrNone},
		{[]complex128{0, 0, complex(tiny, 0)}, 2, complex(4*tiny, 0), 0x3p-1060, impl.ErrNone},
		{[]complex128{0, 0, complex(tiny, 0)}, 0.5, 0, 0x3p-1061, impl.ErrNone},
		{[]complex128{0, 0, complex(tiny, 0)}, 0x1p-20, 0, 0x1p-1060, impl.ErrNone},
		{[]complex128{0, 0, complex(tiny, 0)}, 0x1p-14, 0, 0x1p-1060 + 0x1p-1074, impl.ErrNone},
		// The product with u is rounded to 0, to the least float, or to twice this, and h is added to it.
		{[]complex128{0x1p-1022, 1}, 0, 0x1p-1022, 0x1p-1060 + 0x1p-1074, impl.ErrNone},
		{[]complex128{0x1p-1023, 1}, 0, 0x1p-1023, 0x1p-1060, impl.ErrNone},
		{[]complex128{0x1.8p-1023, 1}, 0, 0x1.8p-1023, 0x1p-1060 + 0x1p-1074, impl.ErrNone},
		{[]complex128{0x1.8p-1022, 1}, 0, 0x1.8p-1022, 0x1p-1060 + 0x2p-1074, impl.ErrNone},
		// The sum of both is what is multiplied by u: each of them would vanish by itself.
		{[]complex128{0, 0x1p-1024}, 0.5, 0x1p-1025, 0x1p-1060, impl.ErrNone},
		{[]complex128{0, 0x1.8p-1024}, 0.5, 0x1.8p-1025, 0x1p-1060 + 0x1p-1074, impl.ErrNone},
		// Largest numbers.
		{[]complex128{0x1p1022, 1}, 0, 0x1p1022, 0x1p970 + 0x1p930, impl.ErrNone},
		{[]complex128{-0x1p1021, 0x1p510}, 0x1p511, 0, 0x1p970 + 0x1p930, impl.ErrNone},
		{[]complex128{1, -0x1.fffffffffdfffp+1003, 0x1p933}, 0x1.fffffffffdfffp+70, 1, 0x1.ffffffffffffep+1023, impl.ErrNone},
	} {
		checkBound(t, c)
	}
	forPoints(t, 161, func(p []complex128, z complex128) {
		value, _ := valueByParts(p, z)
		bound, code := boundByParts(p, z)
		checkBound(t, boundCase{p, z, value, bound, code})
	})
}

// Bounds that are not finite, and numbers on the way to bounds that could be.
func TestBoundsThatAreTooLarge(t *testing.T) {
	both := complex(huge, huge)
	for _, c := range []struct {
		p     []complex128
		z     complex128
		value complex128
	}{
		// The sizes of the number, of the first value and of the last one.
		{[]complex128{1, complex(tiny, 0)}, both, 1 + 0x1p-50 + 0x1.fffffffffffffp-51i},
		{[]complex128{1, both}, 0, 1},
		{[]complex128{both, 1}, 0, both},
		{[]complex128{1, both, 1}, 0, 1},
		// Products with 2 and with 4, and the sum of both.
		{[]complex128{0x1p1023, 1}, 0, 0x1p1023},
		{[]complex128{0, 0x1p1023, 1}, 0, 0},
		{[]complex128{-0x1p1022, 0x1p511}, 0x1p511, 0},
		{[]complex128{0x1p1021, 0x1p510}, 0x1p511, 0x1p1022},
		// a s, where the product is finite.
		{[]complex128{-0x1p1023i, 0x1p511 + 0x1p511i}, 0x1p511 + 0x1p511i, 0},
		// e s, and its product with f.
		{[]complex128{1, -0x1p1010, 0x1p940}, 0x1p70, 1},
		{[]complex128{1, -0x1.fffffffffefffp+1003, 0x1p933}, 0x1.fffffffffefffp+70, 1},
	} {
		value, code := impl.ValueOf(c.p, c.z)
		checkWide(t, fmt.Sprintf("ValueOf(%v, %v)", c.p, c.z), value, code, c.value, impl.ErrNone)
		checkBound(t, boundCase{c.p, c.z, 0, 0, impl.ErrLimit})
		checkBool(t, fmt.Sprintf("IsSurelyNonzero(%v, %v)", c.p, c.z), impl.IsSurelyNonzero, c.p, c.z, false, impl.ErrLimit)
	}
	// Values that are not finite, also just on the way, or where nothing else is not finite.
	for _, p := range [][]complex128{
		{1, 0x1p1023}, {complex(-huge, 0), complex(-huge, 0), complex(huge, 0)}, {complex(huge, 0), 0x1p1000}, {1, complex(0, -huge), -0x1p1000i},
	} {
		checkBound(t, boundCase{p, 2, 0, 0, impl.ErrLimit})
		checkBool(t, fmt.Sprintf("IsSurelyNonzero(%v, 2)", p), impl.IsSurelyNonzero, p, 2, false, impl.ErrLimit)
	}
}

func checkBool(t *testing.T, name string, f func([]complex128, complex128) (bool, int64), p []complex128, z complex128, want bool, wantCode int64) {
	t.Helper()
	if is, code := f(p, z); is != want || code != wantCode {
		t.Errorf("%s = %v, %d, want %v, %d", name, is, code, want, wantCode)
	}
}

func TestIsSurelyNonzero(t *testing.T) {
	least, more := 0x1p-1060, 0x1p-1060+0x1p-1074
	// The sum 4 + 2 y is 4 + 2^-50, and its product with u and f is y.
	equal := 0x1p-51 + 0x1p-91 + 0x1p-103
	for _, c := range []struct {
		p    []complex128
		z    complex128
		want bool
	}{
		{[]complex128{2, -3, 1}, 1i, true},
		{[]complex128{2, -3, 1}, 2, false},
		{[]complex128{2, -3, 1}, 1, false},
		{[]complex128{2, -3, 1}, 1.9375, true},
		{[]complex128{2, 3}, 1, true},
		{ones(13), 1, true},
		{ones(13), -1, true},
		{[]complex128{1, 0, 1}, 1i, false},
		{[]complex128{0, 1}, 0, false},
		{[]complex128{0.1, 0.1}, -1, false},
		{[]complex128{-1, 3}, 1.0 / 3, false},
		// The larger part is equal to the bound, or one float greater.
		{[]complex128{complex(least, 0), 1}, 0, false},
		{[]complex128{complex(more, 0), 1}, 0, true},
		{[]complex128{complex(0, least), 1}, 0, false},
		{[]complex128{complex(0, more), 1}, 0, true},
		{[]complex128{complex(-least, 0), 1}, 0, false},
		{[]complex128{complex(-more, 0), 1}, 0, true},
		{[]complex128{complex(0, -least), 1}, 0, false},
		{[]complex128{complex(0, -more), 1}, 0, true},
		{[]complex128{complex(-1, equal), 1}, 1, false},
		{[]complex128{complex(-1, math.Nextafter(equal, 1)), 1}, 1, true},
		{[]complex128{complex(-1, -equal), 1}, 1, false},
		{[]complex128{complex(-1, math.Nextafter(-equal, -1)), 1}, 1, true},
		// The sum of both parts is greater, but neither part is; and the smaller part does not count.
		{[]complex128{complex(least, least), 1}, 0, false},
		{[]complex128{complex(-least, least), 1}, 0, false},
		{[]complex128{complex(more, -least), 1}, 0, true},
		{[]complex128{complex(tiny, more), 1}, 0, true},
	} {
		name := fmt.Sprintf("IsSurelyNonzero(%v, %v)", c.p, c.z)
		checkBool(t, name, impl.IsSurelyNonzero, c.p, c.z, c.want, impl.ErrNone)
	}
	checkBound(t, boundCase{[]complex128{complex(-1, equal), 1}, 1, complex(0, equal), equal, impl.ErrNone})
	forPoints(t, 162, func(p []complex128, z complex128) {
		value, _ := valueByParts(p, z)
		bound, code := boundByParts(p, z)
		want := code == impl.ErrNone && max(math.Abs(real(value)), math.Abs(imag(value))) > bound
		checkBool(t, fmt.Sprintf("IsSurelyNonzero(%v, %v)", p, z), impl.IsSurelyNonzero, p, z, want, code)
	})
}
