package tests

import (
	"fmt"
	"math"
	"math/rand/v2"
	"testing"

	"loop.example/g01156/impl"
)

// rootCase is a number with its root.
type rootCase struct {
	z    complex128
	want answer
}

func checkRoot(t *testing.T, z complex128, want complex128, wantCode int64) {
	t.Helper()
	root, code := impl.RootOfComplex(z)
	checkWide(t, fmt.Sprintf("RootOfComplex(%v)", z), root, code, want, wantCode)
}

func checkNarrowRoot(t *testing.T, z complex64, want complex64, wantCode int64) {
	t.Helper()
	root, code := impl.RootOfComplexNarrow(z)
	checkNarrow(t, fmt.Sprintf("RootOfComplexNarrow(%v)", z), root, code, want, wantCode)
}

// smallRoots are numbers of both widths with roots that need no rounding.
func smallRoots() []rootCase {
	return []rootCase{
		{0, is(0)},
		{complex(negative, 0), is(0)},
		{complex(0, negative), is(0)},
		{complex(negative, negative), is(0)},
		// Real numbers: an imaginary part of -0 is not less than 0.
		{4, is(2)},
		{complex(4, negative), is(2)},
		{2.25, is(1.5)},
		{-4, is(2i)},
		{complex(-4, negative), is(2i)},
		{complex(-2.25, negative), is(1.5i)},
		// Imaginary numbers: a real part of -0 is at least 0.
		{2i, is(1 + 1i)},
		{-2i, is(1 - 1i)},
		{complex(negative, 2), is(1 + 1i)},
		{complex(negative, -2), is(1 - 1i)},
		{8i, is(2 + 2i)},
		{complex(negative, -0.5), is(0.5 - 0.5i)},
		// All four quarters.
		{3 + 4i, is(2 + 1i)},
		{3 - 4i, is(2 - 1i)},
		{-3 + 4i, is(1 + 2i)},
		{-3 - 4i, is(1 - 2i)},
		{5 + 12i, is(3 + 2i)},
		{-5 + 12i, is(2 + 3i)},
		{-24 - 10i, is(1 - 5i)},
		{-45 - 28i, is(2 - 7i)},
		// An imaginary part of the root that becomes 0 by rounding, with its sign.
		{complex(0x1p100, -0x1p-149), is(complex(0x1p50, -0x1p-200))},
		{complex(0x1p100, 0x1p-149), is(complex(0x1p50, 0x1p-200))},
		{complex(-0x1p100, 0x1p-149), is(complex(0x1p-200, 0x1p50))},
		{complex(-0x1p100, -0x1p-149), is(complex(0x1p-200, -0x1p50))},
	}
}

func TestRootOfComplex(t *testing.T) {
	limit := fails(impl.ErrLimit)
	for _, c := range append(smallRoots(), []rootCase{
		{complex(0x1p1000, -tiny), is(complex(0x1p500, negative))},
		{complex(0x1p1000, tiny), is(0x1p500)},
		{complex(-0x1p1000, -tiny), is(complex(0, -0x1p500))},
		{complex(-0x1p1000, tiny), is(complex(0, 0x1p500))},
		// The least parts: the half of the sum can become 0.
		{complex(0, tiny), limit},
		{complex(0, -tiny), limit},
		{complex(negative, tiny), limit},
		{complex(negative, -tiny), limit},
		{complex(tiny, 0), is(0x1p-537)},
		{complex(tiny, negative), is(0x1p-537)},
		{complex(-tiny, 0), is(complex(0, 0x1p-537))},
		{complex(-tiny, negative), is(complex(0, 0x1p-537))},
		{complex(tiny, tiny), is(complex(0x1p-537, 0x1p-538))},
		{complex(-tiny, -tiny), is(complex(0x1p-538, -0x1p-537))},
		{complex(0, 2*tiny), is(complex(0x1p-537, 0x1p-537))},
		{complex(0, -2*tiny), is(complex(0x1p-537, -0x1p-537))},
		{complex(2*tiny, 0), is(0x1.6a09e667f3bcdp-537)},
		// The half of 3 times the least float is twice it.
		{complex(0, 3*tiny), is(complex(0x1.6a09e667f3bcdp-537, 0x1.0f876ccdf6cd9p-537))},
		{complex(0x3p-700, -0x4p-700), is(complex(0x2p-350, -0x1p-350))},
		// The greatest parts: the sum, or the modulus, can be infinite.
		{complex(huge, 0), limit},
		{complex(-huge, 0), limit},
		{complex(0x1p1023, 0), limit},
		{complex(-0x1p1023, negative), limit},
		{complex(0x1.fffffffffffffp1022, 0), is(complex(0x1.6a09e667f3bccp511, 0))},
		{complex(huge, huge), limit},
		{complex(-huge, huge), limit},
		{complex(0, 0x1p1023), is(complex(0x1p511, 0x1p511))},
		{complex(negative, -0x1p1023), is(complex(0x1p511, -0x1p511))},
		{complex(0x3p1020, 0x4p1020), is(complex(0x2p510, 0x1p510))},
		{complex(0x1.8p1022, 0x1p1023), limit},
		{complex(0, huge), is(complex(0x1.6a09e667f3bccp511, 0x1.6a09e667f3bccp511))},
	}...) {
		checkRoot(t, c.z, c.want.z, c.want.code)
	}
	for _, z := range notFinites {
		checkRoot(t, z, 0, impl.ErrInvalid)
	}
}

func TestRootOfComplexNarrow(t *testing.T) {
	least := float64(tinyNarrow)
	for _, c := range append(smallRoots(), []rootCase{
		{complex(0, least), is(complex(0x1p-75, 0x1p-75))},
		{complex(0, -least), is(complex(0x1p-75, -0x1p-75))},
		{complex(least, 0), is(0x1.6a09e6p-75)},
		{complex(-least, negative), is(complex(0, 0x1.6a09e6p-75))},
		// These would be too large for sums of the narrow width.
		{complex(0x1p127, 0), is(0x1.6a09e6p63)},
		{complex(float64(hugeNarrow), 0), is(0x1.fffffep63)},
		{complex(-float64(hugeNarrow), 0), is(complex(0, 0x1.fffffep63))},
		{complex(0x3p124, 0x4p124), is(complex(0x2p62, 0x1p62))},
	}...) {
		checkNarrowRoot(t, complex64(c.z), narrowedByParts(c.want.z), c.want.code)
	}
	for _, z := range notFinites {
		checkNarrowRoot(t, complex64(z), 0, impl.ErrInvalid)
	}
}

// anyRooted gives a number of one of several kinds: any, of the order of 1, near the real or the
// imaginary line, at one of them, or near the ends of floats.
func anyRooted(r *rand.Rand) complex128 {
	z := spreadNumbers(r, 1, -3, 3)[0]
	far := math.Ldexp(1, -r.IntN(60))
	switch r.IntN(9) {
	case 0, 1:
		return z
	case 2:
		return complex(real(z)*far, imag(z))
	case 3:
		return complex(real(z), imag(z)*far)
	case 4:
		return complex(real(z), []float64{0, negative}[r.IntN(2)])
	case 5:
		return complex([]float64{0, negative}[r.IntN(2)], imag(z))
	case 6:
		return spreadNumbers(r, 1, -1074, -1040)[0]
	case 7:
		return spreadNumbers(r, 1, 1021, 1024)[0]
	default:
		return anyWide(r)
	}
}

func TestRootsInOrder(t *testing.T) {
	r := newRandom(311)
	counts := map[int64]int{}
	for range 15000 {
		z := anyRooted(r)
		var want complex128
		code := codeInOrder(func() { want = inOrder{}.root(z) })
		checkRoot(t, z, want, code)
		counts[code]++
		if t.Failed() {
			return
		}
	}
	if counts[impl.ErrNone] < 8000 || counts[impl.ErrLimit] < 500 {
		t.Errorf("roots have the codes %v", counts)
	}
}

// Narrow roots are the wide ones, rounded once.
func TestNarrowRootsInOrder(t *testing.T) {
	r := newRandom(312)
	for range 8000 {
		z := anyNarrow(r)
		if near := complex64(anyRooted(r)); r.IntN(2) == 0 && !isNotFinite(near) {
			z = near
		}
		var want complex128
		code := codeInOrder(func() { want = inOrder{}.root(complex128(z)) })
		checkNarrowRoot(t, z, narrowedByParts(want), code)
		if code != impl.ErrNone {
			t.Errorf("RootOfComplexNarrow(%v) is wanted to have the code %d", z, code)
		}
	}
}

// The parts of numbers, with all signs and at all ends of floats, against each other.
func TestRootsOfCorners(t *testing.T) {
	for _, x := range cornerFloats() {
		for _, y := range cornerFloats() {
			z := complex(x, y)
			var want complex128
			code := codeInOrder(func() { want = inOrder{}.root(z) })
			checkRoot(t, z, want, code)
			checkModulus(t, modulusCase{z, modulusByParts(z), codeOf(complex(modulusByParts(z), 0))})
		}
	}
}
