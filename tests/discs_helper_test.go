package tests

import (
	"fmt"
	"math"
	"math/big"
	"math/rand/v2"
	"slices"
	"testing"

	"loop.example/g01156/impl"
)

// greatestRadius is the greatest radius less than 2^1200, and belowFive and aboveFive are the radii
// beside 5. The distance of 1 + 1i from 0 is between underDiagonal and overDiagonal.
const (
	greatestRadius = "2^1250-1p-50"
	belowFive      = "5629499534213119p-50"
	aboveFive      = "5629499534213121p-50"
	underDiagonal  = "1592262918131443p-50"
	overDiagonal   = "1592262918131444p-50"
)

// disc makes a disc, or something that is none, with a radius as number reads it.
func disc(centre complex128, radius string) impl.Disc {
	return impl.Disc{Centre: centre, Radius: dyadic(radius)}
}

// discs are equally large around some numbers.
func discs(radius string, centres ...complex128) []impl.Disc {
	var list []impl.Disc
	for _, z := range centres {
		list = append(list, disc(z, radius))
	}
	return list
}

func discText(d impl.Disc) string {
	return fmt.Sprintf("{%v, %v}", d.Centre, binaryOf(d.Radius))
}

func discTexts(list []impl.Disc) []string {
	var texts []string
	for _, d := range list {
		texts = append(texts, discText(d))
	}
	return texts
}

func sameDisc(d, e impl.Disc) bool {
	return sameWide(d.Centre, e.Centre) && sameDyadic(d.Radius, e.Radius)
}

// checkDisc compares a result with the disc that is wanted, or with the zero value if a code other
// than ErrNone is.
func checkDisc(t *testing.T, name string, d impl.Disc, code int64, want impl.Disc, wantCode int64) {
	t.Helper()
	if wantCode != impl.ErrNone {
		want = impl.Disc{}
	}
	if !sameDisc(d, want) || code != wantCode {
		t.Errorf("%s = %s, %d, want %s, %d", name, discText(d), code, discText(want), wantCode)
	}
}

func sameGroups(a, b [][]int64) bool {
	return slices.EqualFunc(a, b, slices.Equal[[]int64])
}

func squareBetween(z, w complex128) binary {
	x := minus(valueOf(real(z)), valueOf(real(w)))
	y := minus(valueOf(imag(z)), valueOf(imag(w)))
	return plus(times(x, x), times(y, y))
}

// isAsNear reports whether the distance of two numbers is at most a length.
func isAsNear(z, w complex128, length binary) bool {
	return length.whole.Sign() >= 0 && compare(squareBetween(z, w), times(length, length)) <= 0
}

func areTouching(d, e impl.Disc) bool {
	return isAsNear(d.Centre, e.Centre, plus(binaryOf(d.Radius), binaryOf(e.Radius)))
}

func isHeld(d, e impl.Disc) bool {
	return isAsNear(d.Centre, e.Centre, minus(binaryOf(e.Radius), binaryOf(d.Radius)))
}

func isPointOf(d impl.Disc, z complex128) bool {
	return isAsNear(d.Centre, z, binaryOf(d.Radius))
}

// rootBelowOf is the greatest multiple of 2^-k whose square is not greater than b.
func rootBelowOf(b binary, k int64) binary {
	above := rootAboveOf(b, k)
	if compare(times(above, above), b) > 0 {
		return minus(above, binary{big.NewInt(1), -k})
	}
	return above
}

// radiusByParts is the least multiple of 2^-50 whose square times below, the squares of the absolute
// values by which one divides, is not less than above, the squares of the others.
func radiusByParts(t *testing.T, p, list []complex128, i int) binary {
	t.Helper()
	re, im, code := exactValueByParts(p, list[i])
	if code != impl.ErrNone {
		t.Fatalf("the exact value of %v at %v has the code %d", p, list[i], code)
	}
	n := binary{big.NewInt(int64(len(list))), 0}
	above := times(times(n, n), plus(times(re, re), times(im, im)))
	below := squareBetween(p[len(p)-1], 0)
	for j, z := range list {
		if j != i {
			below = times(below, squareBetween(list[i], z))
		}
	}
	// Of whole numbers, the last multiple whose square is too small is found bit by bit.
	least := min(above.exponent, below.exponent-100)
	wanted, step := multiplesOf(above, least), multiplesOf(binary{below.whole, below.exponent - 100}, least)
	multiples := new(big.Int)
	for bit := max(wanted.BitLen()-step.BitLen(), 0)/2 + 1; bit >= 0; bit-- {
		more := new(big.Int).SetBit(multiples, bit, 1)
		if square := new(big.Int).Mul(more, more); square.Mul(square, step).Cmp(wanted) < 0 {
			multiples = more
		}
	}
	if wanted.Sign() == 0 {
		return binary{new(big.Int), 0}
	}
	return binary{multiples.Add(multiples, big.NewInt(1)), -50}
}

// groupsByWays are the groups as classes of indices between which there is a way.
func groupsByWays(list []impl.Disc) [][]int64 {
	return classesByWays(len(list), func(i, k int) bool { return areTouching(list[i], list[k]) })
}

// classesByWays are the largest sets of indices with ways between them over such that are joined.
func classesByWays(count int, areJoined func(i, k int) bool) [][]int64 {
	ways := make([][]bool, count)
	for i := range count {
		for k := range count {
			ways[i] = append(ways[i], i == k || areJoined(i, k))
		}
	}
	for over := range count {
		for i := range count {
			for k := range count {
				ways[i][k] = ways[i][k] || ways[i][over] && ways[over][k]
			}
		}
	}
	var classes [][]int64
	for i := range count {
		var class []int64
		for k := range count {
			if ways[i][k] {
				class = append(class, int64(k))
			}
		}
		if class[0] == int64(i) {
			classes = append(classes, class)
		}
	}
	return classes
}

func hullByParts(list []impl.Disc, group []int64) impl.Disc {
	centre := list[group[0]].Centre
	radius := binary{new(big.Int), 0}
	for _, i := range group {
		reach := plus(binaryOf(list[i].Radius), rootAboveOf(squareBetween(list[i].Centre, centre), 50))
		if compare(reach, radius) > 0 {
			radius = reach
		}
	}
	return impl.Disc{Centre: centre, Radius: dyadicOf(radius)}
}

func separationByParts(d, e impl.Disc) binary {
	between := minus(rootBelowOf(squareBetween(d.Centre, e.Centre), 50), plus(binaryOf(d.Radius), binaryOf(e.Radius)))
	if areTouching(d, e) {
		return binary{new(big.Int), 0}
	}
	return between
}

// moderateFloat gives a part of a moderate number, with few bits or with many, less than 2^most.
func moderateFloat(r *rand.Rand, most int) float64 {
	bits := 1 + r.IntN(min(53, most+60))
	x := math.Ldexp(float64(r.Int64N(1<<bits)), r.IntN(most-bits+61)-60)
	return math.Copysign(x, r.Float64()-0.5)
}

func moderateCorners() []float64 {
	return []float64{
		0, 0x1p-60, 3 * 0x1p-60, 0x1p-51, 0x1p-50, 0x1p-50 + 0x1p-60, 0x1p-8 - 0x1p-60, 0.1, 0.5, 1 - 0x1p-53, 1, 1 + 0x1p-52, 3, 4,
		0x1p29, 0x1p30 - 0x1p-23, 0x1p30,
	}
}

// moderates gives different moderate numbers of one of several kinds: small whole ones, any, the
// greatest and the least ones, and such that are near to each other.
func moderates(r *rand.Rand, count int) []complex128 {
	corners, most := moderateCorners(), []int{30, 4, -20}[r.IntN(3)]
	part := func() float64 { return moderateFloat(r, most) }
	switch r.IntN(5) {
	case 0:
		part = func() float64 { return math.Copysign(float64(r.IntN(5)), r.Float64()-0.5) }
	case 1:
		part = func() float64 { return math.Copysign(corners[r.IntN(len(corners))], r.Float64()-0.5) }
	case 2:
		base := math.Ldexp(float64(r.IntN(15)), -12)
		part = func() float64 { return base + math.Ldexp(float64(r.IntN(9)-4), -60+r.IntN(3)) }
	}
	var list []complex128
	for len(list) < count {
		if z := complex(part(), part()); !slices.Contains(list, z) {
			list = append(list, z)
		}
	}
	return list
}

// moderatePolynomial gives a polynomial with moderate coefficients: any ones, those of small whole
// roots, and multiples of these.
func moderatePolynomial(r *rand.Rand, degree int) []complex128 {
	if r.IntN(3) > 0 {
		return timesNumber(manyRoots(r, degree), []complex128{1, -1i, 2, 3 - 4i, 1 + 2i, 0x1p-40, 0x1p6}[r.IntN(7)])
	}
	for {
		if p := moderates(r, degree+1); p[degree] != 0 {
			return p
		}
	}
}

// moderateNear rounds both parts of a number to multiples of 2^-60.
func moderateNear(z complex128) complex128 {
	part := func(x float64) float64 { return math.RoundToEven(x*0x1p60) * 0x1p-60 }
	return complex(part(real(z)), part(imag(z)))
}

// besideNumbers gives different moderate numbers near to others, some of which they are.
func besideNumbers(r *rand.Rand, numbers []complex128) []complex128 {
	most := -r.IntN(45)
	var list []complex128
	for _, z := range numbers {
		near := z
		for slices.Contains(list, near) || r.IntN(4) > 0 {
			near = moderateNear(z + spreadNumbers(r, 1, most-10, most+1)[0])
		}
		list = append(list, near)
	}
	return list
}

// besideLength gives a radius of a length that is rounded down or up to a multiple of 2^-50, or of
// one beside it, less another radius: so discs nearly touch. It is 0 where this would be negative.
func besideLength(r *rand.Rand, square binary, other binary) impl.Dyadic {
	radius := minus(plus(rootBelowOf(square, 50), binary{big.NewInt(r.Int64N(4) - 1), -50}), other)
	if radius.whole.Sign() < 0 {
		return impl.Dyadic{}
	}
	return dyadicOf(radius)
}

func anyRadius(r *rand.Rand) impl.Dyadic {
	radii := []string{"0p0", "1p-50", "3p-50", "1p-1", "1p0", "3p0", "1p30", "1p1199", greatestRadius}
	if r.IntN(2) == 0 {
		return dyadic(radii[r.IntN(len(radii))])
	}
	return dyadicOf(binary{big.NewInt(r.Int64N(1 << (1 + r.IntN(62)))), -50})
}

// anyDisc has any moderate centre, and a radius that nearly leads to another disc or any one.
func anyDisc(r *rand.Rand, other impl.Disc) impl.Disc {
	centre := moderates(r, 1)[0]
	switch r.IntN(6) {
	case 0:
		centre = other.Centre
	case 1:
		if near := other.Centre + complex(0x1p-60, -0x1p-60); impl.IsModerate(near) {
			centre = near
		}
	}
	d := impl.Disc{Centre: centre, Radius: anyRadius(r)}
	square, length := squareBetween(centre, other.Centre), binaryOf(other.Radius)
	switch r.IntN(4) {
	case 0:
		d.Radius = besideLength(r, square, length)
	case 1:
		d.Radius = besideLength(r, square, negated(length))
	}
	if !impl.IsDisc(d) {
		d.Radius = other.Radius
	}
	return d
}

// forDiscPairs calls check with random discs, both of which may be the first one, until the test has
// failed.
func forDiscPairs(t *testing.T, seed uint64, check func(d, e impl.Disc)) {
	t.Helper()
	r := newRandom(seed)
	for range 6000 {
		d := anyDisc(r, disc(0, "1p0"))
		e := anyDisc(r, d)
		check(d, e)
		check(e, d)
		if t.Failed() {
			return
		}
	}
}

// anyDiscs gives a list of discs each of which may nearly touch the one before.
func anyDiscs(r *rand.Rand) []impl.Disc {
	count := 1 + r.IntN(impl.MaxDegree)
	var list []impl.Disc
	if r.IntN(2) == 0 {
		radius := anyRadius(r)
		for _, z := range moderates(r, count) {
			list = append(list, impl.Disc{Centre: z, Radius: radius})
		}
		return list
	}
	last := disc(0, "1p0")
	for range count {
		last = anyDisc(r, last)
		list = append(list, last)
	}
	r.Shuffle(count, func(i, k int) { list[i], list[k] = list[k], list[i] })
	return list
}

// forDiscLists calls check with random lists of discs, until the test has failed.
func forDiscLists(t *testing.T, seed uint64, check func(r *rand.Rand, list []impl.Disc)) {
	t.Helper()
	r := newRandom(seed)
	for range 2000 {
		check(r, anyDiscs(r))
		if t.Failed() {
			return
		}
	}
}

// anyIndices gives a strictly ascending list of at least one index.
func anyIndices(r *rand.Rand, count int) []int64 {
	var indices []int64
	for _, i := range r.Perm(count)[:1+r.IntN(count)] {
		indices = append(indices, int64(i))
	}
	slices.Sort(indices)
	return indices
}
