package tests

import (
	"fmt"
	"math"
	"slices"
	"testing"

	"loop.example/g01156/impl"
)

// notModerates are finite floats that are no parts of moderate numbers.
var notModerates = []float64{
	0x1p30 + 0x1p-22, 0x1p31, 0x1p53, 1e12, 0x1p60, 0x1p964, 0x1p1023, huge,
	0x1p-61, 3 * 0x1p-61, 0x1p-60 + 0x1p-61, 0x1p-60 + 0x1p-112, 0x1p-9 + 0x1p-61, 0x1p-8 - 0x1p-61, 1e-5,
	0x1p-60 - 0x1p-113, 0x1p-100, 0x1p-1022, 1e-30, tiny,
}

func TestIsModerate(t *testing.T) {
	check := func(z complex128, want bool) {
		t.Helper()
		if impl.IsModerate(z) != want {
			t.Errorf("IsModerate(%v) = %v", z, !want)
		}
	}
	for _, x := range append(moderateCorners(), 5*0x1p-60, 0x1p-8+0x1p-60, 0x1p-9+0x1p-60, math.Nextafter(0x1p30, 0)) {
		for _, y := range moderateCorners() {
			for _, z := range []complex128{complex(x, y), complex(-x, y), complex(x, -y), complex(-y, -x)} {
				check(z, true)
			}
		}
		for _, y := range append(notModerates, inf, nan) {
			for _, z := range []complex128{complex(x, y), complex(y, x), complex(-x, -y), complex(-y, x), complex(y, y)} {
				check(z, false)
			}
		}
	}
	if next := math.Nextafter(0x1p30, inf); next != notModerates[0] {
		t.Errorf("%g is next to 2^30", next)
	}
}

// Of any float its exact value tells whether it is a multiple of 2^-60 that is at most 2^30.
func TestIsModerateOfAnyNumbers(t *testing.T) {
	r := newRandom(401)
	limit, moderate := number("1p30"), 0
	isPart := func(x float64) bool {
		value := valueOf(x)
		return value.exponent >= -60 && compare(absoluteOf(value), limit) <= 0
	}
	part := func() float64 {
		switch r.IntN(4) {
		case 0:
			return anyFloat(r)
		case 1:
			return moderateFloat(r, 31)
		default:
			return moderateFloat(r, 30) * 0x1p-1
		}
	}
	for range 20000 {
		z := complex(part(), part())
		want := isPart(real(z)) && isPart(imag(z))
		if impl.IsModerate(z) != want {
			t.Fatalf("IsModerate(%v) = %v", z, !want)
		}
		if want {
			moderate++
		}
	}
	if moderate < 2000 || moderate > 18000 {
		t.Errorf("%d numbers are moderate", moderate)
	}
}

// goodRadii and badRadii are exact numbers that are radii, and that are none.
var (
	goodRadii = []string{"0p0", "1p0", "3p-2", "1p-50", "3p-50", "1p-49", "2^53-1p-50", "1p400", "3p1198", "1p1199", "2^1249-1p-49", greatestRadius}
	badRadii  = []string{
		"1p-51", "3p-51", "2^51+1p-51", "2^1251-1p-51", "1p-5000", "-1p0", "-1p-50", "-1p-51", "-2^1250+1p-50",
		"1p1200", "2^1250+1p-50", "3p1199", "2^1200+1p0", "2^1201-1p0", "1p1201", "1p5000", "2^4800-1p0", "-1p1200",
	}
)

func TestIsDisc(t *testing.T) {
	check := func(d impl.Disc, want bool) {
		t.Helper()
		if impl.IsDisc(d) != want {
			t.Errorf("IsDisc(%v) = %v", d, !want)
		}
	}
	for _, centre := range []complex128{0, complex(negative, negative), 1 - 2i, 0x1p30 - 0x1p30i, 0x1p-60i} {
		for _, radius := range goodRadii {
			check(disc(centre, radius), true)
		}
		check(impl.Disc{Centre: centre}, true)
		check(impl.Disc{Centre: centre, Radius: impl.Dyadic{Whole: impl.Whole{Limbs: []int64{}}}}, true)
	}
	for why, d := range badDiscs() {
		if impl.IsDisc(d) {
			t.Errorf("IsDisc with %s is true", why)
		}
	}
}

// badDiscs are no discs.
func badDiscs() map[string]impl.Disc {
	bad := map[string]impl.Disc{}
	for _, x := range append(notModerates, inf, -inf, nan) {
		bad[fmt.Sprintf("real part %g", x)] = disc(complex(x, 1), "1p0")
		bad[fmt.Sprintf("imaginary part %g", -x)] = disc(complex(0, -x), "0p0")
	}
	for _, radius := range badRadii {
		bad["radius "+radius] = disc(1-1i, radius)
	}
	for why, radius := range badDyadics() {
		bad["no exact number: "+why] = impl.Disc{Centre: 1, Radius: radius}
	}
	return bad
}

type discsCase struct {
	p, list []complex128
	radii   []string
}

func checkDiscsOf(t *testing.T, p, list []complex128, want []impl.Disc, wantCode int64) {
	t.Helper()
	got, code := impl.DiscsOf(p, list)
	if wantCode != impl.ErrNone {
		want = nil
	}
	if !slices.EqualFunc(got, want, sameDisc) || code != wantCode {
		t.Errorf("DiscsOf(%v, %v) = %v, %d, want %v, %d", p, list, discTexts(got), code, discTexts(want), wantCode)
	}
}

func checkDiscsCases(t *testing.T, cases []discsCase) {
	t.Helper()
	for _, c := range cases {
		var want []impl.Disc
		for i, radius := range c.radii {
			want = append(want, disc(c.list[i], radius))
		}
		checkDiscsOf(t, c.p, c.list, want, impl.ErrNone)
	}
}

func TestDiscsOf(t *testing.T) {
	checkDiscsCases(t, []discsCase{
		{realList(2, -3, 1), realList(1, 3), []string{"0p0", "1p1"}},
		{realList(2, -3, 1), realList(3, 1), []string{"1p1", "0p0"}},
		{realList(2, -3, 1), realList(1, 2), []string{"0p0", "0p0"}},
		{realList(2, -3, 1), realList(0, 4), []string{"1p0", "3p0"}},
		{realList(2, -3, 1), []complex128{1i, -1i}, []string{"3560408122994090p-50", "3560408122994090p-50"}},
		// Other last coefficients.
		{realList(4, -6, 2), realList(1, 3), []string{"0p0", "1p1"}},
		{[]complex128{-2i, 3i, -1i}, realList(1, 3), []string{"0p0", "1p1"}},
		{timesNumber(realList(2, -3, 1), 3-4i), realList(1, 3), []string{"0p0", "1p1"}},
		{timesNumber(realList(2, -3, 1), 0x1p-58+0x1p-60i), realList(1, 3), []string{"0p0", "1p1"}},
		{realList(1, 0, 1, 2), realList(0, 1, -1), []string{"3p-1", "3p0", "0p0"}},
		// Points around 0, and coefficients of 0.
		{realList(0, 0, 1), realList(1, -1), []string{"1p0", "1p0"}},
		{[]complex128{-1, 0, 0, 0, 1}, []complex128{1, 1i, -1, -1i}, []string{"0p0", "0p0", "0p0", "0p0"}},
		{realList(0, 0, 0, 1), realList(0, 4, 8), []string{"0p0", "3p2", "3p4"}},
	})
}

// For degree 1 the radius is the distance from the root, rounded up.
func TestDiscsOfDegreeOne(t *testing.T) {
	checkDiscsCases(t, []discsCase{
		{realList(-3, 1), realList(3), []string{"0p0"}},
		{realList(-3, 1), realList(1), []string{"1p1"}},
		{realList(-3, 2), realList(1), []string{"1p-1"}},
		{[]complex128{-5, 3 - 4i}, realList(0), []string{"1p0"}},
		{[]complex128{3 + 4i, 1}, realList(0), []string{"5p0"}},
		{[]complex128{1i, 1}, realList(1), []string{overDiagonal}},
		{realList(-1, 3), realList(0), []string{"375299968947542p-50"}},
		// Exact multiples of 2^-50, and others.
		{realList(-0x1p-50, 1), realList(0), []string{"1p-50"}},
		{realList(-0x1p-51, 1), realList(0), []string{"1p-50"}},
		{realList(-0x1p-60, 1), realList(0), []string{"1p-50"}},
		{realList(-0x1p-60, 0x1p30), realList(0), []string{"1p-50"}},
		{realList(0x1p-50+0x1p-60, 1), realList(0), []string{"1p-49"}},
		{realList(0x1p-49-0x1p-60, 1), realList(0), []string{"1p-49"}},
		{realList(3*0x1p-51, 1), realList(0), []string{"1p-49"}},
		{realList(1-0x1p-53, 1), realList(0), []string{"1p0"}},
		{realList(1+0x1p-50, 1), realList(0), []string{"2^50+1p-50"}},
		{realList(1+0x1p-52, 1), realList(0), []string{"2^50+1p-50"}},
		// Rounded up by the least bit: the squares are just above those of multiples.
		{[]complex128{1 + 0x1p-60i, 1}, realList(0), []string{"2^50+1p-50"}},
		{[]complex128{-0x1p30 + 0x1p-60i, 1}, realList(0), []string{"2^80+1p-50"}},
		{[]complex128{-0x1p30, 1}, []complex128{-0x1p30 + 0x1p-60i}, []string{"2^81+1p-50"}},
		{[]complex128{-0x1p30, 1}, []complex128{-0x1p30}, []string{"1p31"}},
		// The farthest roots.
		{realList(0x1p30, 0x1p-60), realList(0), []string{"1p90"}},
		{realList(0x1p30, 0x1p-60), realList(-0x1p30), []string{"2^60-1p30"}},
	})
}

// Points that are as near to each other as can be.
func TestDiscsOfNearPoints(t *testing.T) {
	checkDiscsCases(t, []discsCase{
		{realList(0, 0, 1), realList(0, 0x1p-60), []string{"0p0", "1p-50"}},
		{realList(1, 0, 1), realList(0, 0x1p-60), []string{"1p61", "2^111+1p-50"}},
		{realList(1, 0, 1), []complex128{0, -0x1p-60i}, []string{"1p61", "1p61"}},
		{realList(-1, 0, 1), []complex128{1, 1 - 0x1p-53}, []string{"0p0", "1p2"}},
	})
	// The greatest coefficients and the least last one, with all points around 0.
	p := slices.Repeat([]complex128{complex(0x1p30, -0x1p30)}, 13)
	p[12] = 0x1p-60i
	list := []complex128{0}
	for n := range 11 {
		list = append(list, complex(float64(n%4+1)*0x1p-60, float64(n/4-1)*0x1p-60))
	}
	want := make([]impl.Disc, 12)
	for i, z := range list {
		want[i] = impl.Disc{Centre: z, Radius: dyadicOf(radiusByParts(t, p, list, i))}
		if length := int64(want[i].Radius.Exponent) + int64(binaryOf(want[i].Radius).whole.BitLen()); length < 700 {
			t.Errorf("the radius %d has just %d bits", i, length)
		}
	}
	checkDiscsOf(t, p, list, want, impl.ErrNone)
}

// The ends of all parts, in all degrees.
func TestDiscsOfExtremes(t *testing.T) {
	r := newRandom(402)
	extremes := []float64{0, 0x1p-60, -0x1p-60, 0x1p30, -0x1p30, 0x1p30 - 0x1p-23, 0x1p-8 - 0x1p-60}
	part := func() float64 { return extremes[r.IntN(len(extremes))] }
	for degree := 1; degree <= impl.MaxDegree; degree++ {
		for range 40 {
			p := make([]complex128, degree+1)
			for p[degree] == 0 {
				for n := range p {
					p[n] = complex(part(), part())
				}
			}
			var list []complex128
			for len(list) < degree {
				if z := complex(part(), part()); !slices.Contains(list, z) {
					list = append(list, z)
				}
			}
			checkDiscsInParts(t, p, list)
		}
	}
}

// checkDiscsInParts compares the discs with the radii that squares tell.
func checkDiscsInParts(t *testing.T, p, list []complex128) {
	t.Helper()
	var want []impl.Disc
	for i, z := range list {
		want = append(want, impl.Disc{Centre: z, Radius: dyadicOf(radiusByParts(t, p, list, i))})
	}
	checkDiscsOf(t, p, list, want, impl.ErrNone)
	for _, d := range want {
		if !impl.IsDisc(d) {
			t.Errorf("DiscsOf(%v, %v): %s is no disc", p, list, discText(d))
		}
	}
}

func TestDiscsOfAnyPoints(t *testing.T) {
	r := newRandom(403)
	for range 1500 {
		degree := 1 + r.IntN(impl.MaxDegree)
		checkDiscsInParts(t, moderatePolynomial(r, degree), moderates(r, degree))
		roots := wholeNumbers(r, degree)
		p, _ := rootsByParts(roots)
		checkDiscsInParts(t, p, besideNumbers(r, roots))
		if t.Failed() {
			return
		}
	}
}

// The order of the points changes the order of the discs only.
func TestDiscsOfPointsInOtherOrders(t *testing.T) {
	r := newRandom(404)
	for range 200 {
		degree := 2 + r.IntN(impl.MaxDegree-1)
		p, list := moderatePolynomial(r, degree), moderates(r, degree)
		want, _ := impl.DiscsOf(p, list)
		r.Shuffle(degree, func(i, k int) {
			list[i], list[k] = list[k], list[i]
			want[i], want[k] = want[k], want[i]
		})
		checkDiscsOf(t, p, list, want, impl.ErrNone)
	}
}

// Centres are the numbers as they are, also with the signs of 0.
func TestCentresKeepTheSignsOfZero(t *testing.T) {
	for _, zero := range minusZeros {
		checkDiscsOf(t, realList(0, 1), []complex128{zero}, []impl.Disc{disc(zero, "0p0")}, impl.ErrNone)
		checkDiscsOf(t, realList(0, -2, 1), []complex128{zero, 2}, []impl.Disc{disc(zero, "0p0"), disc(2, "0p0")}, impl.ErrNone)
		checkDiscsOf(t, []complex128{zero, -2, 1}, []complex128{2, zero}, []impl.Disc{disc(2, "0p0"), disc(zero, "0p0")}, impl.ErrNone)
	}
	z := complex(negative, 1)
	checkDiscsOf(t, []complex128{1, minusZeros[0], 1}, []complex128{z, -1i}, []impl.Disc{disc(z, "0p0"), disc(-1i, "0p0")}, impl.ErrNone)
}
