package tests

import (
	"fmt"
	"math"
	"slices"
	"testing"

	"loop.example/g01156/impl"
)

func TestNarrowPoints(t *testing.T) {
	limit := float64(hugeNarrow)
	beyond := math.Nextafter(0x1.ffffffp127, 0)
	hundred := slices.Repeat([]complex128{0.1, 1i, -2.5}, 34)[:100]
	tenth := complex64(complex(float32(0.1), 0))
	for _, c := range []struct {
		list []complex128
		want []complex64
		code int64
	}{
		{nil, nil, impl.ErrNone},
		{[]complex128{}, nil, impl.ErrNone},
		{[]complex128{2}, []complex64{2}, impl.ErrNone},
		{[]complex128{2, 1.6 + 1.2i}, []complex64{2, complex(float32(1.6), float32(1.2))}, impl.ErrNone},
		{[]complex128{1, 0, 1, 3 - 4i}, []complex64{1, 0, 1, 3 - 4i}, impl.ErrNone},
		{hundred, slices.Repeat([]complex64{tenth, 1i, -2.5}, 34)[:100], impl.ErrNone},
		{minusZeros, []complex64{complex(negativeNarrow, 0), complex(0, negativeNarrow), complex(negativeNarrow, negativeNarrow)}, impl.ErrNone},
		// Points that lose digits, with ties to even.
		{[]complex128{1 + 0x1p-24, 1 + 0x1p-24 + 0x1p-52, 1 + 0x1.8p-23}, []complex64{1, 1 + 0x1p-23, 1 + 0x1p-22}, impl.ErrNone},
		{[]complex128{0x1p24 + 1, complex(0, -0x1p24-3)}, []complex64{0x1p24, complex(0, -0x1p24-4)}, impl.ErrNone},
		{[]complex128{0x1.8p-149, 0x1.4p-148}, []complex64{0x1p-148, 0x1p-148}, impl.ErrNone},
		// Points that become 0, with their signs, and points that just do not.
		{[]complex128{0x1p-150, complex(tiny, -tiny)}, []complex64{0, complex(0, negativeNarrow)}, impl.ErrNone},
		{[]complex128{-0x1p-150, -1e-60 + 1e-60i}, []complex64{complex(negativeNarrow, 0), complex(negativeNarrow, 0)}, impl.ErrNone},
		{[]complex128{0x1.0000000000001p-150, complex(0, -0x1.8p-150)}, []complex64{complex(tinyNarrow, 0), complex(0, -tinyNarrow)}, impl.ErrNone},
		// Points that are too large, and points that just are not.
		{[]complex128{complex(limit, -limit)}, []complex64{complex(hugeNarrow, -hugeNarrow)}, impl.ErrNone},
		{[]complex128{complex(beyond, 0), complex(0, -beyond)}, []complex64{complex(hugeNarrow, 0), complex(0, -hugeNarrow)}, impl.ErrNone},
		{[]complex128{0x1.ffffffp127}, nil, impl.ErrLimit},
		{[]complex128{-0x1.ffffffp127i}, nil, impl.ErrLimit},
		{[]complex128{0x1p128, 1}, nil, impl.ErrLimit},
		{[]complex128{1, 2, 1e300i, 4}, nil, impl.ErrLimit},
		{[]complex128{1, 2, complex(huge, -huge)}, nil, impl.ErrLimit},
		{with(hundred, 99, -1e39), nil, impl.ErrLimit},
	} {
		list, code := impl.NarrowPoints(c.list)
		checkNarrowList(t, fmt.Sprintf("NarrowPoints(%v)", c.list), list, code, c.want, c.code)
	}
	r := newRandom(211)
	for range 4000 {
		points := anyNumbers(r, r.IntN(8))
		if r.IntN(2) == 0 {
			points = spreadNumbers(r, r.IntN(8), -152, 128)
		}
		list, code := impl.NarrowPoints(points)
		want, wantCode := narrowPointsByParts(points)
		checkNarrowList(t, fmt.Sprintf("NarrowPoints(%v)", points), list, code, want, wantCode)
	}
}

func TestWidePoints(t *testing.T) {
	hundred := slices.Repeat([]complex64{0.1, 1i, -2.5}, 34)[:100]
	tenth := complex(float64(float32(0.1)), 0)
	for _, c := range []struct {
		list []complex64
		want []complex128
	}{
		{nil, nil},
		{[]complex64{}, nil},
		{[]complex64{2}, []complex128{2}},
		{[]complex64{1, 0, 1, 3 - 4i}, []complex128{1, 0, 1, 3 - 4i}},
		{[]complex64{complex(negativeNarrow, 0), complex(0, negativeNarrow), complex(negativeNarrow, negativeNarrow)}, minusZeros},
		{[]complex64{complex(tinyNarrow, -tinyNarrow)}, []complex128{complex(0x1p-149, -0x1p-149)}},
		{[]complex64{complex(hugeNarrow, -hugeNarrow)}, []complex128{complex(0x1.fffffep127, -0x1.fffffep127)}},
		{[]complex64{0.1, complex(0, float32(0.1))}, []complex128{tenth, complex(0, real(tenth))}},
		{hundred, slices.Repeat([]complex128{tenth, 1i, -2.5}, 34)[:100]},
	} {
		list, code := impl.WidePoints(c.list)
		checkCoefficients(t, fmt.Sprintf("WidePoints(%v)", c.list), list, code, c.want, impl.ErrNone)
	}
	r := newRandom(212)
	for range 2000 {
		var points []complex64
		for range r.IntN(8) {
			points = append(points, anyNarrow(r))
		}
		list, code := impl.WidePoints(points)
		checkCoefficients(t, fmt.Sprintf("WidePoints(%v)", points), list, code, wideList(points), impl.ErrNone)
	}
}

func TestCountInside(t *testing.T) {
	most := complex(huge, 0)
	line := []complex128{1, 2, 3}
	var hundred []complex128
	for n := range 100 {
		hundred = append(hundred, complex(float64(n), 0))
	}
	for _, c := range []struct {
		list []complex128
		z    complex128
		r    float64
		want int64
	}{
		{nil, 0, 1, 0},
		{[]complex128{}, 1i, 0, 0},
		{line, 0, 2, 2},
		{line, 2, 1, 3},
		{line, 5, 1, 0},
		{[]complex128{1, 1, 2, 1}, 1, 0.5, 3},
		{hundred, 0, 49.5, 50},
		{hundred, 50, 7, 15},
		{hundred, 50, huge, 100},
		// Sizes that equal the radius, or are just greater.
		{line, 2, 1 - 0x1p-53, 1},
		{[]complex128{1 + 1i, -1 - 1i, 1 - 1i, -1 + 1i}, 0, 2, 4},
		{[]complex128{1 + 1i, -1 - 1i, 1 - 1i, -1 + 1i}, 0, 2 - 0x1p-52, 0},
		{[]complex128{3 + 4i}, 0, 7, 1},
		{[]complex128{3 + 4i}, 0, 6, 0},
		{[]complex128{3 - 4i}, -1 + 1i, 9, 1},
		{[]complex128{3 - 4i}, -1 + 1i, 8, 0},
		// A radius of 0, and of -0.
		{[]complex128{1, 2, 1, 2i}, 1, 0, 2},
		{[]complex128{1, 2, 1, 2i}, 1, negative, 2},
		{[]complex128{0, complex(negative, negative)}, complex(0, negative), 0, 2},
		{[]complex128{0, complex(negative, negative)}, 0, negative, 2},
		{[]complex128{complex(tiny, 0), complex(0, -tiny), 0}, 0, 0, 1},
		{[]complex128{complex(tiny, 0), complex(0, -tiny), 0}, 0, tiny, 3},
		{[]complex128{complex(tiny, tiny), complex(0, -tiny), 0}, 0, tiny, 2},
		// Differences and sizes are rounded: 1 is lost in them.
		{[]complex128{0x1p53 + 2}, 1, 0x1p53, 1},
		{[]complex128{0x1p53 + 1i}, 0, 0x1p53, 1},
		{[]complex128{0x1p53 + 2i}, 0, 0x1p53, 0},
		// Differences that are not finite do not count.
		{[]complex128{most}, -most, huge, 0},
		{[]complex128{most, 0, -most}, -most, huge, 2},
		{[]complex128{complex(0, huge), 1i, complex(1, -huge)}, complex(0, -huge), huge, 2},
		{[]complex128{0x1p1023, 0x1p1022}, -0x1p1023, huge, 1},
		// Neither do sizes that are not finite, of differences that are.
		{[]complex128{complex(huge, huge)}, 0, huge, 0},
		{[]complex128{complex(0x1p1023, -0x1p1023), complex(0x1p1023, 0x1p1022)}, 0, huge, 1},
	} {
		count, code := impl.CountInside(c.list, c.z, c.r)
		checkInteger(t, fmt.Sprintf("CountInside(%v, %v, %g)", c.list, c.z, c.r), count, code, c.want, impl.ErrNone)
	}
	r := newRandom(213)
	inside := int64(0)
	for range 4000 {
		points := anyNumbers(r, 1+r.IntN(12))
		z := points[r.IntN(len(points))]
		if r.IntN(2) == 0 {
			z = anyWide(r)
		}
		radius := sizeOf(points[r.IntN(len(points))] - z)
		if radius > huge {
			radius = math.Abs(anyFloat(r))
		}
		count, code := impl.CountInside(points, z, radius)
		checkInteger(t, fmt.Sprintf("CountInside(%v, %v, %g)", points, z, radius), count, code, countByParts(points, z, radius), impl.ErrNone)
		inside += count
	}
	if inside < 4000 {
		t.Errorf("just %d points are inside", inside)
	}
}
