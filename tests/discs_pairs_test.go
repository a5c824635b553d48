package tests

import (
	"fmt"
	"math"
	"math/big"
	"testing"

	"loop.example/g01156/impl"
)

type pairCase struct {
	d, e impl.Disc
	want bool
}

func checkPair(t *testing.T, name string, f func(d, e impl.Disc) (bool, int64), c pairCase) {
	t.Helper()
	if is, code := f(c.d, c.e); is != c.want || code != impl.ErrNone {
		t.Errorf("%s(%s, %s) = %v, %d", name, discText(c.d), discText(c.e), is, code)
	}
}

func TestDoTouch(t *testing.T) {
	for _, c := range []pairCase{
		{disc(1, "0p0"), disc(3, "1p1"), true},
		// In exactly one point, and missed by the least multiple.
		{disc(0, "1p1"), disc(3+4i, "3p0"), true},
		{disc(0, "1p1"), disc(3+4i, "3377699720527871p-50"), false},
		{disc(0, "0p0"), disc(3+4i, "5p0"), true},
		{disc(0, "0p0"), disc(3+4i, belowFive), false},
		{disc(0, "1p-50"), disc(3+4i, belowFive), true},
		{disc(0, "0p0"), disc(-4+3i, aboveFive), true},
		{disc(-0x1p30, "1p30"), disc(0x1p30, "1p30"), true},
		{disc(-0x1p30, "1p30"), disc(0x1p30, "2^80-1p-50"), false},
		{disc(-0x1p30i, "1p31"), disc(0x1p30i, "0p0"), true},
		{disc(-0x1p30i, "2^81-1p-50"), disc(0x1p30i, "0p0"), false},
		// The distance is just more than a multiple.
		{disc(-0x1p30, "1p30"), disc(0x1p30+0x1p-60i, "1p30"), false},
		{disc(-0x1p30, "2^80+1p-50"), disc(0x1p30+0x1p-60i, "1p30"), true},
		{disc(0, underDiagonal), disc(1+1i, "0p0"), false},
		{disc(0, overDiagonal), disc(1+1i, "0p0"), true},
		{disc(0, "0p0"), disc(0x1p-60, "0p0"), false},
		{disc(0, "0p0"), disc(0x1p-60, "1p-50"), true},
		{disc(0, "0p0"), disc(0x1p-50+0x1p-60i, "1p-50"), false},
		// Equal discs and equal centres.
		{disc(0, "0p0"), disc(0, "0p0"), true},
		{disc(0, "0p0"), disc(complex(negative, negative), "0p0"), true},
		{disc(2-1i, "1p0"), disc(2-1i, "1p0"), true},
		{disc(2-1i, "0p0"), disc(2-1i, "7p0"), true},
		{disc(1i, greatestRadius), disc(1i, greatestRadius), true},
		// One inside the other, and large ones.
		{disc(1, "1p0"), disc(0, "100p0"), true},
		{disc(0x1p30+0x1p30i, greatestRadius), disc(-0x1p30-0x1p30i, "0p0"), true},
		{disc(0x1p30+0x1p30i, greatestRadius), disc(-0x1p30-0x1p30i, greatestRadius), true},
		{disc(0x1p30+0x1p30i, "0p0"), disc(-0x1p30-0x1p30i, "0p0"), false},
	} {
		checkPair(t, "DoTouch", impl.DoTouch, c)
		checkPair(t, "DoTouch", impl.DoTouch, pairCase{c.e, c.d, c.want})
	}
	touching, apart := 0, 0
	forDiscPairs(t, 411, func(d, e impl.Disc) {
		c := pairCase{d, e, areTouching(d, e)}
		checkPair(t, "DoTouch", impl.DoTouch, c)
		if c.want {
			touching++
		} else {
			apart++
		}
	})
	if touching < 2000 || apart < 2000 {
		t.Errorf("just %d discs touch, and %d do not", touching, apart)
	}
}

func TestIsInside(t *testing.T) {
	for _, c := range []pairCase{
		{disc(1, "0p0"), disc(3, "1p1"), true},
		{disc(3, "1p1"), disc(1, "0p0"), false},
		// Touching from within, and the least multiple beyond.
		{disc(3+4i, "1p1"), disc(0, "7p0"), true},
		{disc(3+4i, "1p1"), disc(0, "7881299347898367p-50"), false},
		{disc(3+4i, "2^51+1p-50"), disc(0, "7p0"), false},
		{disc(3+4i, "2^51-1p-50"), disc(0, "7p0"), true},
		{disc(3+4i, "0p0"), disc(0, "5p0"), true},
		{disc(3+4i, "0p0"), disc(0, belowFive), false},
		{disc(-0x1p30, "1p0"), disc(0x1p30, "2^31+1p0"), true},
		{disc(-0x1p30, "1p0"), disc(0x1p30, "2^81-1p-50"), false},
		{disc(1+1i, "1p0"), disc(0, "2718162824974067p-50"), false},
		{disc(1+1i, "1p0"), disc(0, "2718162824974068p-50"), true},
		{disc(1+1i, "0p0"), disc(0, underDiagonal), false},
		{disc(1+1i, "0p0"), disc(0, overDiagonal), true},
		{disc(0x1p-60, "1p0"), disc(0, "1p0"), false},
		{disc(0x1p-60, "1p0"), disc(0, "2^50+1p-50"), true},
		{disc(0x1p-50, "1p0"), disc(0, "2^50+1p-50"), true},
		{disc(0x1p-50+0x1p-60i, "1p0"), disc(0, "2^50+1p-50"), false},
		// Itself, equal discs and equal centres.
		{disc(0, "0p0"), disc(0, "0p0"), true},
		{disc(0, "0p0"), disc(complex(0, negative), "0p0"), true},
		{disc(2-1i, "3p0"), disc(2-1i, "3p0"), true},
		{disc(2-1i, "3p0"), disc(2-1i, "3377699720527871p-50"), false},
		{disc(2-1i, "3377699720527871p-50"), disc(2-1i, "3p0"), true},
		{disc(2-1i, "0p0"), disc(2-1i, "1p-50"), true},
		{disc(2-1i, "1p-50"), disc(2-1i, "0p0"), false},
		// The square of the difference of the radii is large, but the wrong disc is the larger one.
		{disc(0, "7p0"), disc(1, "1p1"), false},
		{disc(0, greatestRadius), disc(0, "0p0"), false},
		{disc(0x1p30i, "0p0"), disc(-0x1p30i, greatestRadius), true},
		// Apart, and overlapping.
		{disc(0, "1p0"), disc(9, "1p0"), false},
		{disc(0, "1p0"), disc(1, "1p0"), false},
		{disc(0, "1p0"), disc(1, "3p-1"), false},
	} {
		checkPair(t, "IsInside", impl.IsInside, c)
	}
	inside, outside := 0, 0
	forDiscPairs(t, 412, func(d, e impl.Disc) {
		c := pairCase{d, e, isHeld(d, e)}
		checkPair(t, "IsInside", impl.IsInside, c)
		checkPair(t, "IsInside", impl.IsInside, pairCase{d, d, true})
		if c.want {
			inside++
		} else {
			outside++
		}
	})
	if inside < 2000 || outside < 2000 {
		t.Errorf("just %d discs are inside, and %d are not", inside, outside)
	}
}

type pointOfCase struct {
	d    impl.Disc
	z    complex128
	want bool
}

func checkHasPoint(t *testing.T, d impl.Disc, z complex128, want bool) {
	t.Helper()
	if has, code := impl.HasPoint(d, z); has != want || code != impl.ErrNone {
		t.Errorf("HasPoint(%s, %v) = %v, %d", discText(d), z, has, code)
	}
}

func TestHasPoint(t *testing.T) {
	next := math.Nextafter
	for _, c := range []pointOfCase{
		{disc(3, "1p1"), 3 + 2i, true},
		{disc(1, "0p0"), 1.5, false},
		// On the edge, and beside it.
		{disc(0, "5p0"), 5, true},
		{disc(0, "5p0"), -5i, true},
		{disc(0, "5p0"), 3 - 4i, true},
		{disc(0, "5p0"), complex(next(3, 9), -4), false},
		{disc(0, "5p0"), complex(3, next(-4, -9)), false},
		{disc(0, "5p0"), complex(next(3, 0), -4), true},
		{disc(0, "5p0"), complex(next(5, 9), 0), false},
		{disc(0, belowFive), 5, false},
		{disc(0, belowFive), complex(next(5, 0), 0), true},
		{disc(0, aboveFive), complex(next(5, 9), 0), true},
		{disc(3+4i, "5p0"), 0, true},
		{disc(3+4i, "5p0"), complex(-tiny, 0), false},
		{disc(3+4i, "5p0"), complex(tiny, 0), true},
		{disc(0, underDiagonal), 1 + 1i, false},
		{disc(0, overDiagonal), 1 + 1i, true},
		{disc(0, "1p0"), complex(next(1, 2), 0), false},
		{disc(0, "1p0"), complex(1, tiny), false},
		{disc(0, "1p0"), complex(next(1, 0), tiny), true},
		{disc(0, "1p0"), complex(-tiny, -1), false},
		// The centre, and points that are not moderate.
		{disc(2-1i, "0p0"), 2 - 1i, true},
		{disc(2, "0p0"), complex(2, negative), true},
		{disc(2, "0p0"), complex(2, tiny), false},
		{disc(0, "0p0"), complex(tiny, 0), false},
		{disc(0, "1p-50"), complex(tiny, -tiny), true},
		{disc(0, "1p-50"), 0x1p-50, true},
		{disc(0, "1p-50"), complex(0x1p-50, tiny), false},
		{disc(0, "1p-50"), 0x1p-51 + 0x1p-51i, true},
		{disc(0, "1p30"), 1e12, false},
		{disc(0, "1p1023"), 0x1p1023, true},
		{disc(0, "1p1023"), complex(0x1p1023, tiny), false},
		{disc(0, "2^53-1p971"), complex(huge, 0), true},
		{disc(0, "2^53-1p971"), complex(huge, tiny), false},
		{disc(0x1p-60, "2^53-1p971"), complex(huge, tiny), true},
		{disc(0x1p-60, "2^53-1p971"), complex(-huge, 0), false},
		{disc(0, "1p1024"), complex(-huge, tiny), true},
		{disc(0, "1p1024"), complex(huge, huge), false},
		{disc(0x1p30, greatestRadius), complex(huge, -huge), true},
	} {
		checkHasPoint(t, c.d, c.z, c.want)
	}
}

func TestHasPointOfAnyPoints(t *testing.T) {
	r := newRandom(413)
	in, out := 0, 0
	for range 8000 {
		z := anyWide(r)
		if r.IntN(2) == 0 {
			z = moderates(r, 1)[0]
		}
		d := impl.Disc{Centre: moderates(r, 1)[0], Radius: anyRadius(r)}
		if r.IntN(2) == 0 {
			d.Radius = besideLength(r, squareBetween(z, d.Centre), binary{new(big.Int), 0})
		}
		if !impl.IsDisc(d) {
			continue
		}
		want := isPointOf(d, z)
		checkHasPoint(t, d, z, want)
		checkHasPoint(t, d, d.Centre, true)
		if want {
			in++
		} else {
			out++
		}
		if t.Failed() {
			return
		}
	}
	if in < 1500 || out < 1500 {
		t.Errorf("just %d points are in discs, and %d are not", in, out)
	}
}

func TestMirrorDisc(t *testing.T) {
	for _, c := range [][2]complex128{
		{1 + 2i, 1 - 2i}, {1 - 2i, 1 + 2i}, {0x1p-60 - 0x1p30i, 0x1p-60 + 0x1p30i},
		{complex(3, 0), complex(3, negative)}, {complex(3, negative), complex(3, 0)},
		{complex(negative, 0), complex(negative, negative)}, {complex(negative, negative), complex(negative, 0)},
		{complex(0, 0), complex(0, negative)}, {complex(0, negative), complex(0, 0)},
	} {
		for _, radius := range goodRadii {
			d, code := impl.MirrorDisc(disc(c[0], radius))
			checkDisc(t, fmt.Sprintf("MirrorDisc(%v, %s)", c[0], radius), d, code, disc(c[1], radius), impl.ErrNone)
		}
	}
}

type separationCase struct {
	d, e impl.Disc
	want string
}

func TestSeparationOf(t *testing.T) {
	check := func(d, e impl.Disc, want binary) {
		t.Helper()
		got, code := impl.SeparationOf(d, e)
		checkDyadic(t, fmt.Sprintf("SeparationOf(%s, %s)", discText(d), discText(e)), got, code, want, impl.ErrNone)
	}
	for _, c := range []separationCase{
		// Exact ones.
		{disc(1, "0p0"), disc(2, "0p0"), "1p0"},
		{disc(0, "1p0"), disc(3+4i, "1p0"), "3p0"},
		{disc(0, "0p0"), disc(3+4i, "0p0"), "5p0"},
		{disc(-0x1p30, "1p0"), disc(0x1p30, "0p0"), "2^31-1p0"},
		{disc(0, "3p-50"), disc(0x1p-40, "5p-50"), "127p-47"},
		{disc(-0x1p30, "0p0"), disc(0x1p30-0x1p-23, "0p0"), "2^54-1p-23"},
		// Rounded down.
		{disc(0, "0p0"), disc(1+1i, "0p0"), underDiagonal},
		{disc(0, "1p-2"), disc(1+1i, "1p-1"), "747837987999475p-50"},
		{disc(0, "0p0"), disc(0x1p-50+0x1p-51i, "0p0"), "1p-50"},
		{disc(0, "0p0"), disc(0x1p-49-0x1p-60, "0p0"), "1p-50"},
		{disc(0, "1p0"), disc(0x1p30+0x1p-60i, "1p0"), "2^30-2p0"},
		// The least multiple, and less.
		{disc(0, "1p1"), disc(3+4i, "3377699720527871p-50"), "1p-50"},
		{disc(0, "0p0"), disc(3+4i, belowFive), "1p-50"},
		{disc(0, "0p0"), disc(0x1p-50i, "0p0"), "1p-50"},
		{disc(0, "0p0"), disc(0x1p-60, "0p0"), "0p0"},
		{disc(0, "0p0"), disc(0x1p-50-0x1p-60, "0p0"), "0p0"},
		{disc(0, underDiagonal), disc(1+1i, "0p0"), "0p0"},
		{disc(0, "1592262918131442p-50"), disc(1+1i, "0p0"), "1p-50"},
		{disc(-0x1p30, "1p30"), disc(0x1p30+0x1p-60i, "1p30"), "0p0"},
		// Of discs that touch.
		{disc(0, "1p1"), disc(3+4i, "3p0"), "0p0"},
		{disc(0, "0p0"), disc(3+4i, aboveFive), "0p0"},
		{disc(0, overDiagonal), disc(1+1i, "0p0"), "0p0"},
		{disc(1, "0p0"), disc(1, "0p0"), "0p0"},
		{disc(0, "0p0"), disc(complex(negative, 0), "0p0"), "0p0"},
		{disc(1, "5p0"), disc(2, "1p0"), "0p0"},
		{disc(1, greatestRadius), disc(2, greatestRadius), "0p0"},
		{disc(0x1p30, greatestRadius), disc(-0x1p30, "0p0"), "0p0"},
	} {
		check(c.d, c.e, number(c.want))
		check(c.e, c.d, number(c.want))
	}
	apart := 0
	forDiscPairs(t, 414, func(d, e impl.Disc) {
		want := separationByParts(d, e)
		check(d, e, want)
		if want.whole.Sign() > 0 {
			apart++
		}
	})
	if apart < 2000 {
		t.Errorf("just %d discs are apart", apart)
	}
}
