package tests

import (
	"fmt"
	"math/rand/v2"
	"slices"
	"testing"

	"loop.example/g01156/impl"
)

type valueCase struct {
	p       []complex128
	z, want complex128
	code    int64
}

// valueCases have values that are known, with the signs of their zeros.
func valueCases() []valueCase {
	minus := complex(negative, negative)
	return []valueCase{
		{[]complex128{2, -3, 1}, 1i, 1 - 3i, impl.ErrNone},
		{[]complex128{2, -3, 1}, 3, 2, impl.ErrNone},
		{[]complex128{2, -3, 1}, 0, 2, impl.ErrNone},
		{[]complex128{2, -3, 1}, 2, 0, impl.ErrNone},
		{[]complex128{1 - 1i, 2i, 3}, 1 + 1i, -1 + 7i, impl.ErrNone},
		// Degrees 1 and 12.
		{[]complex128{2, 3i}, 2, 2 + 6i, impl.ErrNone},
		{[]complex128{0, 1}, 0.1 - 0.2i, 0.1 - 0.2i, impl.ErrNone},
		{ones(13), 1, 13, impl.ErrNone},
		{ones(13), -1, 1, impl.ErrNone},
		{ones(13), 1i, 1, impl.ErrNone},
		{ones(13), 2, 1<<13 - 1, impl.ErrNone},
		{with(make([]complex128, 13), 12, 1), 2i, 1 << 12, impl.ErrNone},
		// Signs of 0.
		{[]complex128{minus, 1}, 0, 0, impl.ErrNone},
		{[]complex128{minus, 1}, minus, complex(0, negative), impl.ErrNone},
		{[]complex128{minus, minus, 1}, minus, complex(negative, 0), impl.ErrNone},
		{[]complex128{minus, -1}, 0, complex(negative, 0), impl.ErrNone},
		{[]complex128{0, -1}, 0, 0, impl.ErrNone},
		{[]complex128{minus, complex(-1, negative)}, 0, complex(0, negative), impl.ErrNone},
		{[]complex128{complex(0, negative), 1}, complex(1, negative), 1, impl.ErrNone},
		{[]complex128{complex(0, negative), complex(1, negative)}, complex(1, negative), complex(1, negative), impl.ErrNone},
		{[]complex128{complex(-1, negative), complex(1, negative)}, complex(1, negative), complex(0, negative), impl.ErrNone},
		{[]complex128{minus, complex(-tiny, 0)}, complex(tiny, 0), complex(negative, 0), impl.ErrNone},
		// Each product and each sum is rounded: the 1 is lost in 2^53 + 1.
		{[]complex128{-1, -0x1p53, 1, 0x1p53}, 1, -1, impl.ErrNone},
		{[]complex128{-0x1p53, 1, 0x1p53}, 1, 0, impl.ErrNone},
		{[]complex128{-1 - 0x1p-51, 1 + 0x1p-52}, 1 + 0x1p-52, 0, impl.ErrNone},
		{[]complex128{-1, 3}, 1.0 / 3, 0, impl.ErrNone},
		{[]complex128{1, complex(tiny, 0)}, complex(tiny, 0), 1, impl.ErrNone},
	}
}

func TestValueOf(t *testing.T) {
	for _, c := range append(valueCases(), []valueCase{
		// Products, sums, and parts within products that are not finite.
		{[]complex128{1, 1e200}, 1e200, 0, impl.ErrLimit},
		{[]complex128{1, complex(0, huge)}, 2, 0, impl.ErrLimit},
		{[]complex128{complex(huge, 0), complex(huge, 0)}, 1, 0, impl.ErrLimit},
		{[]complex128{complex(0, -huge), complex(0, -huge)}, 1, 0, impl.ErrLimit},
		{[]complex128{1, 1e200 + 1e200i}, 1e200 + 1e200i, 0, impl.ErrLimit},
		{[]complex128{1, complex(tiny, 0), 1e200}, 1e200, 0, impl.ErrLimit},
		// On the way to results that could be huge, -huge / 4, and 0.
		{[]complex128{complex(-huge, 0), complex(-huge, 0), complex(huge, 0)}, 2, 0, impl.ErrLimit},
		{[]complex128{complex(-huge, 0), complex(huge, 0), complex(huge, 0)}, 0.5, 0, impl.ErrLimit},
		{[]complex128{complex(-huge, 0), complex(-huge, 0), complex(huge, 0), complex(huge, 0)}, 1, 0, impl.ErrLimit},
		// At the limit.
		{[]complex128{1, complex(-huge, 0), complex(huge, 0)}, 0, 1, impl.ErrNone},
		{[]complex128{1, complex(huge, 0), complex(huge, 0)}, complex(tiny, 0), 1 + 0x1p-50, impl.ErrNone},
		{[]complex128{complex(huge, 0), 1}, complex(-huge, 0), 0, impl.ErrNone},
		{[]complex128{complex(-huge, huge), 0x1p1023}, complex(1, -1), complex(0x1p1023-huge, huge-0x1p1023), impl.ErrNone},
		{[]complex128{0, 1}, complex(huge, -huge), complex(huge, -huge), impl.ErrNone},
		{[]complex128{0x1p969, 1}, complex(huge, 0), complex(huge, 0), impl.ErrNone},
		{[]complex128{0x1p970, 1}, complex(huge, 0), 0, impl.ErrLimit},
	}...) {
		z, code := impl.ValueOf(c.p, c.z)
		checkWide(t, fmt.Sprintf("ValueOf(%v, %v)", c.p, c.z), z, code, c.want, c.code)
	}
	forPoints(t, 151, func(p []complex128, z complex128) {
		value, code := impl.ValueOf(p, z)
		want, wantCode := valueByParts(p, z)
		checkWide(t, fmt.Sprintf("ValueOf(%v, %v)", p, z), value, code, want, wantCode)
	})
}

func TestNarrowValueOf(t *testing.T) {
	minus := complex(negative, negative)
	limit := float64(hugeNarrow)
	for _, c := range []valueCase{
		{[]complex128{2, -3, 1}, 1i, 1 - 3i, impl.ErrNone},
		{[]complex128{2, -3, 1}, 2, 0, impl.ErrNone},
		{[]complex128{2, 3i}, 2, 2 + 6i, impl.ErrNone},
		{ones(13), 1, 13, impl.ErrNone},
		{ones(13), 1i, 1, impl.ErrNone},
		// Signs of 0.
		{[]complex128{minus, 1}, 0, 0, impl.ErrNone},
		{[]complex128{minus, minus, 1}, minus, complex(negative, 0), impl.ErrNone},
		{[]complex128{minus, -1}, 0, complex(negative, 0), impl.ErrNone},
		// Products and sums are rounded to 32 bits.
		{[]complex128{-1, 1 + 0x1p-12}, 1 + 0x1p-12, 0x1p-11, impl.ErrNone},
		{[]complex128{-1, -0x1p24, 1, 0x1p24}, 1, -1, impl.ErrNone},
		{[]complex128{-0x1p24, 1, 0x1p24}, 1, 0, impl.ErrNone},
		{[]complex128{1, 0x1p-75}, 0x1p-75, 1, impl.ErrNone},
		{[]complex128{0, 0x1p-75}, -0x1p-75, 0, impl.ErrNone},
		{[]complex128{minus, 0x1p-75}, -0x1p-75, complex(negative, 0), impl.ErrNone},
		// But parts of products are not: the products of both parts are too large, and their difference is not.
		{[]complex128{0, 0x1p64 + 0x1.cp62i}, 0x1.2p64 + 0x1.cp62i, 0x1.dep127 + 0x1.dcp127i, impl.ErrNone},
		{[]complex128{0x1p127, 0x1p64 + 0x1p64i}, 0x1p64 + 0x1p64i, 0, impl.ErrLimit},
		// Numbers that are not finite, also on the way to results that could be.
		{[]complex128{1, 0x1p64}, 0x1p64, 0, impl.ErrLimit},
		{[]complex128{complex(limit, 0), complex(limit, 0)}, 1, 0, impl.ErrLimit},
		{[]complex128{complex(0, -limit), complex(0, -limit)}, 1, 0, impl.ErrLimit},
		{[]complex128{complex(-limit, 0), complex(-limit, 0), complex(limit, 0)}, 2, 0, impl.ErrLimit},
		{[]complex128{1, complex(limit, 0), complex(limit, 0)}, 1, 0, impl.ErrLimit},
		{[]complex128{1, complex(-limit, 0), complex(limit, 0)}, 1, 1, impl.ErrNone},
		{[]complex128{0x1p102, 1}, complex(limit, 0), complex(limit, 0), impl.ErrNone},
		{[]complex128{0x1p103, 1}, complex(limit, 0), 0, impl.ErrLimit},
	} {
		value, code := impl.NarrowValueOf(narrowList(c.p), complex64(c.z))
		checkNarrow(t, fmt.Sprintf("NarrowValueOf(%v, %v)", c.p, c.z), value, code, complex64(c.want), c.code)
	}
	forNarrowPoints(t, 152, func(p []complex64, z complex64) {
		value, code := impl.NarrowValueOf(p, z)
		want, wantCode := narrowValueByParts(p, z)
		checkNarrow(t, fmt.Sprintf("NarrowValueOf(%v, %v)", p, z), value, code, want, wantCode)
	})
}

func TestTaylorOf(t *testing.T) {
	minus := complex(negative, negative)
	for _, c := range []struct {
		p    []complex128
		z    complex128
		want []complex128
		code int64
	}{
		{[]complex128{2, -3, 1}, 1, []complex128{0, -1, 1}, impl.ErrNone},
		{[]complex128{2, -3, 1}, 1i, []complex128{1 - 3i, -3 + 2i, 1}, impl.ErrNone},
		{[]complex128{2, 3i}, 2, []complex128{2 + 6i, 3i}, impl.ErrNone},
		{[]complex128{2, -3, 1i}, 0, []complex128{2, -3, 1i}, impl.ErrNone},
		{ones(13), 1, []complex128{13, 78, 286, 715, 1287, 1716, 1716, 1287, 715, 286, 78, 13, 1}, impl.ErrNone},
		{with(make([]complex128, 13), 12, 1), 1, []complex128{1, 12, 66, 220, 495, 792, 924, 792, 495, 220, 66, 12, 1}, impl.ErrNone},
		{[]complex128{minus, minus, complex(-1, negative)}, 0, []complex128{0, complex(0, negative), complex(-1, negative)}, impl.ErrNone},
		{[]complex128{minus, minus, 1}, minus, []complex128{complex(negative, 0), complex(0, negative), 1}, impl.ErrNone},
		// Numbers that are not finite, in the first deflation and in one behind it.
		{[]complex128{1, 1e200}, 1e200, nil, impl.ErrLimit},
		{[]complex128{1, 1, complex(huge, 0)}, 2, nil, impl.ErrLimit},
		{[]complex128{0, complex(-huge/2, 0), complex(huge, 0)}, 1, nil, impl.ErrLimit},
		{[]complex128{0, 0, complex(-huge/2, 0), complex(huge/2, 0)}, 1, []complex128{0, complex(huge/2, 0), complex(huge, 0), complex(huge/2, 0)}, impl.ErrNone},
		{[]complex128{0, 0, complex(0, -0x1p1023), 0x1p1022i}, 1, []complex128{complex(0, -0x1p1022), complex(0, -0x1p1022), 0x1p1022i, 0x1p1022i}, impl.ErrNone},
		{[]complex128{0, 0, 0x1p1022, 0x1p1022}, 1, nil, impl.ErrLimit},
	} {
		list, code := impl.TaylorOf(c.p, c.z)
		checkCoefficients(t, fmt.Sprintf("TaylorOf(%v, %v)", c.p, c.z), list, code, c.want, c.code)
	}
	forPoints(t, 153, func(p []complex128, z complex128) {
		list, code := impl.TaylorOf(p, z)
		want, wantCode := taylorByParts(p, z)
		checkCoefficients(t, fmt.Sprintf("TaylorOf(%v, %v)", p, z), list, code, want, wantCode)
	})
}

func TestValuesAt(t *testing.T) {
	p := []complex128{2, -3, 1}
	hundred := slices.Repeat([]complex128{1i, 3, 2, 1i}, 25)
	for _, c := range []struct {
		p, list, want []complex128
		code          int64
	}{
		{p, nil, nil, impl.ErrNone},
		{p, []complex128{}, nil, impl.ErrNone},
		{p, []complex128{1i}, []complex128{1 - 3i}, impl.ErrNone},
		{p, []complex128{0, 1, 3, 1, 1i}, []complex128{2, 0, 2, 0, 1 - 3i}, impl.ErrNone},
		{p, hundred, slices.Repeat([]complex128{1 - 3i, 2, 0, 1 - 3i}, 25), impl.ErrNone},
		{p, append(slices.Clone(hundred), 1), nil, impl.ErrRange},
		{p, slices.Repeat(hundred, 20), nil, impl.ErrRange},
		{[]complex128{complex(negative, negative), 1}, []complex128{0, complex(negative, negative)}, []complex128{0, complex(0, negative)}, impl.ErrNone},
		// One value that is not finite.
		{p, []complex128{1, 2, 1e200}, nil, impl.ErrLimit},
		{p, []complex128{1e200, 2, 1}, nil, impl.ErrLimit},
		{p, with(hundred, 99, 1e200), nil, impl.ErrLimit},
		{[]complex128{complex(huge, 0), complex(huge, 0)}, nil, nil, impl.ErrNone},
		{[]complex128{complex(huge, 0), complex(huge, 0)}, []complex128{0, -1}, []complex128{complex(huge, 0), 0}, impl.ErrNone},
		{[]complex128{complex(huge, 0), complex(huge, 0)}, []complex128{0, 1, -1}, nil, impl.ErrLimit},
	} {
		list, code := impl.ValuesAt(c.p, c.list)
		checkCoefficients(t, fmt.Sprintf("ValuesAt(%v, %v)", c.p, c.list), list, code, c.want, c.code)
	}
	forPolynomials(t, 154, func(r *rand.Rand, p []complex128) {
		numbers := anyNumbers(r, r.IntN(6))
		var want []complex128
		wantCode := int64(impl.ErrNone)
		for _, z := range numbers {
			value, code := valueByParts(p, z)
			want, wantCode = append(want, value), max(wantCode, code)
		}
		list, code := impl.ValuesAt(p, numbers)
		checkCoefficients(t, fmt.Sprintf("ValuesAt(%v, %v)", p, numbers), list, code, want, wantCode)
	})
}

func TestWidthGap(t *testing.T) {
	limit := float64(hugeNarrow)
	for _, c := range []struct {
		p    []complex128
		z    complex128
		want float64
		code int64
	}{
		{[]complex128{2, -3, 1}, 1i, 0, impl.ErrNone},
		{ones(13), 1i, 0, impl.ErrNone},
		{[]complex128{-1, 1}, 1, 0, impl.ErrNone},
		{[]complex128{complex(negative, negative), -1}, 0, 0, impl.ErrNone},
		// 2^-24 is lost in the narrow product, and 1 in the narrow sum.
		{[]complex128{-1, 1 + 0x1p-12}, 1 + 0x1p-12, 0x1p-24, impl.ErrNone},
		{[]complex128{1, -1 - 0x1p-12}, 1 + 0x1p-12, 0x1p-24, impl.ErrNone},
		{[]complex128{-1i, 1i * (1 + 0x1p-12)}, 1 + 0x1p-12, 0x1p-24, impl.ErrNone},
		{[]complex128{0, 1, 0x1p24}, 1, 1, impl.ErrNone},
		// The larger part of both, and not their sum.
		{[]complex128{0, 1 + 3i, 0x1p24 + 0x1p24i}, 1, 1, impl.ErrNone},
		{[]complex128{0, 1 + 1i, 0x1p24 + 0x1p25i}, 1, 1, impl.ErrNone},
		{[]complex128{0, 1 + 3i, 0x1p24 + 0x1p26i}, 1, 3, impl.ErrNone},
		{[]complex128{0, 3 + 1i, 0x1p26 + 0x1p24i}, 1, 3, impl.ErrNone},
		// Narrow sums and products in which everything is lost.
		{[]complex128{1, 0x1p-26}, 0x1p-26, 0x1p-52, impl.ErrNone},
		{[]complex128{0, 0x1p-80}, 0x1p-80, 0x1p-160, impl.ErrNone},
		// The narrow value is not finite, and the wide one is.
		{[]complex128{complex(limit, 0), complex(limit, 0)}, 1, 0, impl.ErrLimit},
		{[]complex128{1, 0x1p64}, 0x1p64, 0, impl.ErrLimit},
		{[]complex128{0, complex(0, -limit)}, 2, 0, impl.ErrLimit},
		// The narrow value is 0, as 2^80 is lost; the wide one gets larger and larger, until it is not finite.
		{append(make([]complex128, 4), -(1+0x1p-22)*0x1p126, 1+0x1p-23), (1 + 0x1p-23) * 0x1p126, gapOfPowers(4), impl.ErrNone},
		{append(make([]complex128, 7), -(1+0x1p-22)*0x1p126, 1+0x1p-23), (1 + 0x1p-23) * 0x1p126, gapOfPowers(7), impl.ErrNone},
		{append(make([]complex128, 8), -(1+0x1p-22)*0x1p126, 1+0x1p-23), (1 + 0x1p-23) * 0x1p126, 0, impl.ErrLimit},
		{append(make([]complex128, 11), -(1+0x1p-22)*0x1p126, 1+0x1p-23), (1 + 0x1p-23) * 0x1p126, 0, impl.ErrLimit},
	} {
		gap, code := impl.WidthGap(narrowList(c.p), complex64(c.z))
		checkFloat(t, fmt.Sprintf("WidthGap(%v, %v)", c.p, c.z), gap, code, c.want, c.code)
	}
	forNarrowPoints(t, 155, func(p []complex64, z complex64) {
		gap, code := impl.WidthGap(p, z)
		want, wantCode := gapByParts(p, z)
		checkFloat(t, fmt.Sprintf("WidthGap(%v, %v)", p, z), gap, code, want, wantCode)
	})
}

// gapOfPowers is 2^80, multiplied that many times by (1 + 2^-23) 2^126.
func gapOfPowers(times int) float64 {
	x := 0x1p80
	for range times {
		x = productOf(x, (1+0x1p-23)*0x1p126)
	}
	return x
}
