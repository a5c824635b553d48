package tests

import (
	"fmt"
	"math"
	"slices"
	"testing"

	"loop.example/g01156/impl"
)

type wideCase struct {
	a, b, want complex128
	code       int64
}

func checkWideCases(t *testing.T, name string, f func(complex128, complex128) (complex128, int64), cases []wideCase) {
	t.Helper()
	for _, c := range cases {
		z, code := f(c.a, c.b)
		checkWide(t, fmt.Sprintf("%s(%v, %v)", name, c.a, c.b), z, code, c.want, c.code)
	}
}

func TestCodes(t *testing.T) {
	codes := []int64{impl.ErrNone, impl.ErrInvalid, impl.ErrRange, impl.ErrLimit, impl.ErrNotFound, impl.ErrState, impl.ErrSyntax}
	if !slices.Equal(codes, []int64{0, 1, 2, 3, 4, 5, 6}) {
		t.Errorf("the codes are %v", codes)
	}
}

func TestIsFinite(t *testing.T) {
	for _, x := range cornerFloats() {
		if !impl.IsFinite(complex(x, 1)) || !impl.IsFinite(complex(-1, x)) {
			t.Errorf("%v is not told to be finite", x)
		}
	}
	for _, x := range []float64{inf, -inf, nan} {
		if impl.IsFinite(complex(x, 1)) || impl.IsFinite(complex(0, x)) || impl.IsFinite(complex(x, x)) {
			t.Errorf("%v is told to be finite", x)
		}
	}
}

func TestAddWide(t *testing.T) {
	checkWideCases(t, "AddWide", impl.AddWide, []wideCase{
		{1 + 2i, 3 - 5i, 4 - 3i, impl.ErrNone},
		{complex(negative, negative), complex(negative, 0), complex(negative, 0), impl.ErrNone},
		{1 - 1i, -1 + 1i, 0, impl.ErrNone},
		{1, 0x1p-53, 1, impl.ErrNone},
		{1 + 0x1p-52, 0x1p-53, 1 + 0x1p-51, impl.ErrNone},
		{complex(tiny, -tiny), complex(tiny, tiny), complex(2*tiny, 0), impl.ErrNone},
		{complex(huge, 0), 0x1p969, complex(huge, 0), impl.ErrNone},
		{complex(huge, 0), 0x1p970, 0, impl.ErrLimit},
		{complex(1, -huge), complex(1, -huge), 0, impl.ErrLimit},
	})
}

func TestSubtractWide(t *testing.T) {
	checkWideCases(t, "SubtractWide", impl.SubtractWide, []wideCase{
		{1 + 2i, 3 - 5i, -2 + 7i, impl.ErrNone},
		{complex(negative, 0), complex(0, negative), complex(negative, 0), impl.ErrNone},
		{complex(negative, 3), complex(negative, 3), 0, impl.ErrNone},
		{1, 0x1p-54, 1, impl.ErrNone},
		{0x1p-1022, complex(tiny, tiny), complex(0x1p-1022-tiny, -tiny), impl.ErrNone},
		{complex(huge, 0), complex(-huge, 0), 0, impl.ErrLimit},
		{complex(0, -huge), complex(0, huge), 0, impl.ErrLimit},
	})
}

func TestMultiplyWide(t *testing.T) {
	checkWideCases(t, "MultiplyWide", impl.MultiplyWide, []wideCase{
		{1 + 2i, 3 - 5i, 13 + 1i, impl.ErrNone},
		{1i, 1i, -1, impl.ErrNone},
		{1, complex(1, negative), 1, impl.ErrNone},
		{1, complex(negative, 2), complex(negative, 2), impl.ErrNone},
		{1, complex(negative, -2), -2i, impl.ErrNone},
		{complex(negative, 0), 1, complex(negative, 0), impl.ErrNone},
		{complex(tiny, 0), 0.5, 0, impl.ErrNone},
		{complex(tiny, 0), -0.5, complex(negative, 0), impl.ErrNone},
		{complex(3*tiny, 0), complex(0.5, 0), complex(2*tiny, 0), impl.ErrNone},
		{complex(1+0x1p-30, 1+0x1p-29), complex(1+0x1p-30, 1), complex(0, (1+0x1p-30)+(1+0x1p-30+0x1p-29)), impl.ErrNone},
		{complex(huge, 0), 1, complex(huge, 0), impl.ErrNone},
		{complex(huge, 0), complex(1+0x1p-52, 0), 0, impl.ErrLimit},
		{0x1p512, 0x1p512, 0, impl.ErrLimit},
		{complex(0x1p512, 0x1p512), complex(0x1p512, 0x1p512), 0, impl.ErrLimit},
		{complex(0x1p512, 0x1p512), complex(0x1p511, 0x1p511), 0, impl.ErrLimit},
	})
}

func TestDivideWide(t *testing.T) {
	checkWideCases(t, "DivideWide", impl.DivideWide, []wideCase{
		{1 + 3i, 1 + 1i, 2 + 1i, impl.ErrNone},
		{5 + 10i, 2 + 1i, 4 + 3i, impl.ErrNone},
		{5 + 10i, 1 + 2i, 5, impl.ErrNone},
		{1, 3, complex(1.0/3, 0), impl.ErrNone},
		{6 - 4i, 2i, -2 - 3i, impl.ErrNone},
		// Parts of the divisor that are as large take the first branch, which shows in the sign of 0.
		{0, 1 - 1i, 0, impl.ErrNone},
		{0, -1 - 1i, complex(negative, negative), impl.ErrNone},
		{complex(negative, 0), 2, complex(0, 0), impl.ErrNone},
		{complex(negative, negative), 2, complex(negative, 0), impl.ErrNone},
		{complex(tiny, 0), 2, 0, impl.ErrNone},
		{complex(tiny, 0), -2, complex(negative, negative), impl.ErrNone},
		{complex(tiny, tiny), complex(tiny, tiny), 1, impl.ErrNone},
		// Within the quotient s is infinite.
		{1, complex(huge, huge), complex(0, negative), impl.ErrNone},
		{complex(huge, huge), complex(huge, huge), 0, impl.ErrLimit},
		{complex(huge, huge), 2 + 2i, 0, impl.ErrLimit},
		{complex(huge, 0), 0.5, 0, impl.ErrLimit},
		{complex(0, 1), complex(tiny, 0), 0, impl.ErrLimit},
		{1, 0, 0, impl.ErrState},
		{0, 0, 0, impl.ErrState},
		{1, complex(negative, 0), 0, impl.ErrState},
		{1, complex(0, negative), 0, impl.ErrState},
		{1, complex(negative, negative), 0, impl.ErrState},
		{complex(inf, 0), 0, 0, impl.ErrInvalid},
		{complex(0, nan), complex(negative, 0), 0, impl.ErrInvalid},
	})
}

func TestSizeOf(t *testing.T) {
	cases := []wideCase{
		{a: -3 + 4i, want: 7},
		{a: 3 - 4i, want: 7},
		{a: complex(negative, negative), want: 0},
		{a: complex(1, 0x1p-53), want: 1},
		{a: complex(tiny, -tiny), want: complex(2*tiny, 0)},
		{a: complex(-huge, 0x1p969), want: complex(huge, 0)},
		{a: complex(-huge, 0x1p970), code: impl.ErrLimit},
		{a: complex(huge, -huge), code: impl.ErrLimit},
	}
	for _, c := range cases {
		x, code := impl.SizeOf(c.a)
		checkFloat(t, fmt.Sprintf("SizeOf(%v)", c.a), x, code, real(c.want), c.code)
	}
}

func TestLargerPart(t *testing.T) {
	cases := []wideCase{
		{a: -3 - 4i, want: 4},
		{a: -5 + 4i, want: 5},
		{a: 2 + 2i, want: 2},
		{a: complex(negative, negative), want: 0},
		{a: complex(negative, 0), want: 0},
		{a: complex(negative, -tiny), want: complex(tiny, 0)},
		{a: complex(-huge, huge), want: complex(huge, 0)},
	}
	for _, c := range cases {
		x, code := impl.LargerPart(c.a)
		checkFloat(t, fmt.Sprintf("LargerPart(%v)", c.a), x, code, real(c.want), c.code)
	}
}

func TestConjugateOf(t *testing.T) {
	cases := []wideCase{
		{a: 1 + 2i, want: 1 - 2i},
		{a: -1 - 2i, want: -1 + 2i},
		{a: 1, want: complex(1, negative)},
		{a: complex(negative, negative), want: complex(negative, 0)},
		{a: complex(tiny, huge), want: complex(tiny, -huge)},
	}
	for _, c := range cases {
		z, code := impl.ConjugateOf(c.a)
		checkWide(t, fmt.Sprintf("ConjugateOf(%v)", c.a), z, code, c.want, c.code)
	}
}

type timesCase struct {
	z    complex128
	k    int64
	want complex128
	code int64
}

func TestPowerWide(t *testing.T) {
	cases := []timesCase{
		{1 + 1i, 4, -4, impl.ErrNone},
		{2, 64, 0x1p64, impl.ErrNone},
		{3 - 2i, 0, 1, impl.ErrNone},
		{0, 0, 1, impl.ErrNone},
		{0, 64, 0, impl.ErrNone},
		{5 - 7i, 1, 5 - 7i, impl.ErrNone},
		// The first product is that by 1, which changes signs of 0.
		{complex(1, negative), 1, 1, impl.ErrNone},
		{complex(negative, -1), 1, -1i, impl.ErrNone},
		{complex(negative, 1), 1, complex(negative, 1), impl.ErrNone},
		{0x1p-537, 2, complex(tiny, 0), impl.ErrNone},
		{0x1p-537, 3, 0, impl.ErrNone},
		{complex(huge, 0), 1, complex(huge, 0), impl.ErrNone},
		{0x1p16, 63, 0x1p1008, impl.ErrNone},
		{0x1p16, 64, 0, impl.ErrLimit},
		{complex(0x1p512, 0x1p512), 3, 0, impl.ErrLimit},
		{1, 64, 1, impl.ErrNone},
		{1, 65, 0, impl.ErrRange},
		{1, -1, 0, impl.ErrRange},
		{1, math.MaxInt64, 0, impl.ErrRange},
		{1, math.MinInt64, 0, impl.ErrRange},
		{complex(huge, 0), 65, 0, impl.ErrRange},
		{complex(inf, 0), 65, 0, impl.ErrInvalid},
		{complex(0, nan), -1, 0, impl.ErrInvalid},
		{complex(nan, 0), 0, 0, impl.ErrInvalid},
	}
	for _, c := range cases {
		z, code := impl.PowerWide(c.z, c.k)
		checkWide(t, fmt.Sprintf("PowerWide(%v, %d)", c.z, c.k), z, code, c.want, c.code)
	}
}

func TestPowerWideMultipliesOneByOne(t *testing.T) {
	r := newRandom(1)
	different := 0
	for range 200 {
		z := complex(r.Float64()*4-2, r.Float64()*4-2)
		power := complex128(1)
		for k := range int64(65) {
			got, code := impl.PowerWide(z, k)
			checkWide(t, fmt.Sprintf("PowerWide(%v, %d)", z, k), got, code, power, codeOf(power))
			power = productByParts(power, z)
		}
		square := productByParts(z, z)
		if got, _ := impl.PowerWide(z, 4); got != productByParts(square, square) {
			different++
		}
	}
	if different == 0 {
		t.Errorf("no number tells powers from repeated squares")
	}
}

func TestScaleWide(t *testing.T) {
	cases := []timesCase{
		{3 - 5i, -1, 1.5 - 2.5i, impl.ErrNone},
		{3 - 5i, 0, 3 - 5i, impl.ErrNone},
		{3 - 5i, 3, 24 - 40i, impl.ErrNone},
		{complex(negative, 0), 2200, complex(negative, 0), impl.ErrNone},
		{complex(0, negative), -2200, complex(0, negative), impl.ErrNone},
		{complex(huge, -huge), -2200, complex(0, negative), impl.ErrNone},
		{complex(tiny, -tiny), 2097, complex(0x1p1023, -0x1p1023), impl.ErrNone},
		{complex(tiny, 0), 2098, 0, impl.ErrLimit},
		{complex(0, 1), 1023, complex(0, 0x1p1023), impl.ErrNone},
		{complex(0, -1), 1024, 0, impl.ErrLimit},
		{complex(1, 0), 2200, 0, impl.ErrLimit},
		{complex(huge, 0), -2097, complex(2*tiny, 0), impl.ErrNone},
		// Each half is rounded: 5 becomes 2, 1 and 0 times the least float; and 3 becomes 2 and 1.
		{complex(5*tiny, -5*tiny), -3, complex(0, negative), impl.ErrNone},
		{complex(5*tiny, 3*tiny), -2, complex(tiny, tiny), impl.ErrNone},
		{complex(0x1p-1022+tiny, 0), -1, complex(0x1p-1023, 0), impl.ErrNone},
		{1, -1074, complex(tiny, 0), impl.ErrNone},
		{1, -1075, 0, impl.ErrNone},
		{0, 2200, 0, impl.ErrNone},
		{0, 2201, 0, impl.ErrRange},
		{0, -2200, 0, impl.ErrNone},
		{0, -2201, 0, impl.ErrRange},
		{1, math.MaxInt64, 0, impl.ErrRange},
		{1, math.MinInt64, 0, impl.ErrRange},
		{complex(0, inf), 2201, 0, impl.ErrInvalid},
		{complex(nan, 0), -2201, 0, impl.ErrInvalid},
		{complex(nan, 0), 0, 0, impl.ErrInvalid},
	}
	for _, c := range cases {
		z, code := impl.ScaleWide(c.z, c.k)
		checkWide(t, fmt.Sprintf("ScaleWide(%v, %d)", c.z, c.k), z, code, c.want, c.code)
	}
}

// repeated gives n times the number z.
func repeated(z complex128, n int) []complex128 {
	return slices.Repeat([]complex128{z}, n)
}

type listCase struct {
	list []complex128
	want complex128
	code int64
}

func checkListCases(t *testing.T, name string, f func([]complex128) (complex128, int64), cases []listCase) {
	t.Helper()
	for _, c := range cases {
		before := slices.Clone(c.list)
		z, code := f(c.list)
		checkWide(t, fmt.Sprintf("%s(%v)", name, c.list), z, code, c.want, c.code)
		if !slices.EqualFunc(before, c.list, sameWide) {
			t.Errorf("%s changes its list", name)
		}
	}
}

func TestSumOfList(t *testing.T) {
	checkListCases(t, "SumOfList", impl.SumOfList, []listCase{
		{nil, 0, impl.ErrNone},
		{[]complex128{}, 0, impl.ErrNone},
		{[]complex128{1, 1i, -2}, -1 + 1i, impl.ErrNone},
		{[]complex128{complex(negative, negative)}, 0, impl.ErrNone},
		{[]complex128{0x1p53, 1, 1}, 0x1p53, impl.ErrNone},
		{[]complex128{1, 1, 0x1p53}, 0x1p53 + 2, impl.ErrNone},
		{[]complex128{complex(huge, 0), complex(-huge, 0), complex(huge, 0)}, complex(huge, 0), impl.ErrNone},
		{[]complex128{complex(huge, 0), complex(huge, 0), complex(-huge, 0)}, 0, impl.ErrLimit},
		{[]complex128{complex(0, -huge), complex(0, -huge)}, 0, impl.ErrLimit},
		{repeated(1-2i, 100), 100 - 200i, impl.ErrNone},
		{repeated(1, 101), 0, impl.ErrRange},
		{repeated(complex(nan, 0), 101), 0, impl.ErrRange},
		{append(repeated(1, 100), complex(inf, 0)), 0, impl.ErrRange},
		{append(repeated(1, 99), complex(inf, 0)), 0, impl.ErrInvalid},
		{[]complex128{complex(huge, 0), complex(huge, 0), complex(0, nan)}, 0, impl.ErrInvalid},
	})
}

func TestProductOfList(t *testing.T) {
	checkListCases(t, "ProductOfList", impl.ProductOfList, []listCase{
		{nil, 1, impl.ErrNone},
		{[]complex128{}, 1, impl.ErrNone},
		{[]complex128{1i, 1i, 2}, -2, impl.ErrNone},
		{[]complex128{complex(1, negative)}, 1, impl.ErrNone},
		{[]complex128{complex(negative, -1)}, -1i, impl.ErrNone},
		{[]complex128{0x1p-600, 0x1p-600, 0x1p600}, 0, impl.ErrNone},
		{[]complex128{0x1p-600, 0x1p600, 0x1p-600}, 0x1p-600, impl.ErrNone},
		{[]complex128{0x1p600, 0x1p600, 0x1p-600}, 0, impl.ErrLimit},
		{[]complex128{0x1p600, 0x1p600, 0}, 0, impl.ErrLimit},
		{repeated(1i, 100), complex(1, negative), impl.ErrNone},
		{repeated(1, 101), 0, impl.ErrRange},
		{repeated(complex(0, inf), 101), 0, impl.ErrRange},
		{append(repeated(1, 100), complex(nan, 0)), 0, impl.ErrRange},
		{append(repeated(1, 99), complex(nan, 0)), 0, impl.ErrInvalid},
		{[]complex128{complex(huge, 0), complex(huge, 0), complex(-inf, 0)}, 0, impl.ErrInvalid},
	})
}

func TestListsGoInOrder(t *testing.T) {
	r := newRandom(2)
	for range 300 {
		list := make([]complex128, r.IntN(12))
		sum, product := complex128(0), complex128(1)
		sumCode, productCode := int64(impl.ErrNone), int64(impl.ErrNone)
		for i := range list {
			list[i] = anyWide(r)
			sum = complex(sumOf(real(sum), real(list[i])), sumOf(imag(sum), imag(list[i])))
			product = productByParts(product, list[i])
			sumCode = max(sumCode, codeOf(sum))
			productCode = max(productCode, codeOf(product))
		}
		z, code := impl.SumOfList(list)
		checkWide(t, fmt.Sprintf("SumOfList(%v)", list), z, code, sum, sumCode)
		z, code = impl.ProductOfList(list)
		checkWide(t, fmt.Sprintf("ProductOfList(%v)", list), z, code, product, productCode)
	}
}

func TestWideNumbersMustBeFinite(t *testing.T) {
	two := map[string]func(complex128, complex128) (complex128, int64){
		"AddWide": impl.AddWide, "SubtractWide": impl.SubtractWide,
		"MultiplyWide": impl.MultiplyWide, "DivideWide": impl.DivideWide,
	}
	one := map[string]func(complex128) (complex128, int64){
		"ConjugateOf":   impl.ConjugateOf,
		"PowerWide":     func(z complex128) (complex128, int64) { return impl.PowerWide(z, 2) },
		"ScaleWide":     func(z complex128) (complex128, int64) { return impl.ScaleWide(z, 2) },
		"SumOfList":     func(z complex128) (complex128, int64) { return impl.SumOfList([]complex128{1, z, 2}) },
		"ProductOfList": func(z complex128) (complex128, int64) { return impl.ProductOfList([]complex128{1, z, 2}) },
		"SizeOf": func(z complex128) (complex128, int64) {
			x, code := impl.SizeOf(z)
			return complex(x, 0), code
		},
		"LargerPart": func(z complex128) (complex128, int64) {
			x, code := impl.LargerPart(z)
			return complex(x, 0), code
		},
	}
	for _, x := range []float64{inf, -inf, nan} {
		for _, bad := range []complex128{complex(x, 1), complex(1, x), complex(x, x)} {
			for name, f := range two {
				z, code := f(bad, 1)
				checkWide(t, fmt.Sprintf("%s(%v, 1)", name, bad), z, code, 0, impl.ErrInvalid)
				z, code = f(1, bad)
				checkWide(t, fmt.Sprintf("%s(1, %v)", name, bad), z, code, 0, impl.ErrInvalid)
			}
			for name, f := range one {
				z, code := f(bad)
				checkWide(t, fmt.Sprintf("%s(%v)", name, bad), z, code, 0, impl.ErrInvalid)
			}
		}
	}
}
