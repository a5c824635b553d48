package tests

import (
	"math"
	"math/rand/v2"
	"slices"
	"testing"

	"loop.example/g01156/impl"
)

// rootCounts tells what a test of many polynomials has met.
type rootCounts struct {
	groups, joined, inJoined int
}

// checkRootsInDiscs checks that the discs of the points of a list hold the roots of p, each one as
// often as it is met: in each group as many as it has discs.
func checkRootsInDiscs(t *testing.T, p, roots, list []complex128, met *rootCounts) {
	t.Helper()
	found, code := impl.DiscsOf(p, list)
	if code != impl.ErrNone || len(found) != len(roots) {
		t.Fatalf("DiscsOf(%v, %v) = %v, %d", p, list, discTexts(found), code)
	}
	for _, root := range roots {
		if !slices.ContainsFunc(found, func(d impl.Disc) bool { return isPointOf(d, root) }) {
			t.Fatalf("the root %v of %v is in none of the discs %v", root, p, discTexts(found))
		}
	}
	groups, code := impl.GroupsOf(found)
	counts, countCode := impl.CountIn(found, roots)
	if code != impl.ErrNone || countCode != impl.ErrNone || len(counts) != len(groups) {
		t.Fatalf("the groups of %v are %v, %d, with %v, %d, roots", discTexts(found), groups, code, counts, countCode)
	}
	for g, group := range groups {
		if counts[g] != int64(len(group)) {
			t.Fatalf("%d of the roots %v are in the group %v of %v", counts[g], roots, group, discTexts(found))
		}
		met.groups++
		if len(group) > 1 && len(groups) > 1 {
			met.joined++
		}
		checkGroupHull(t, found, group, roots)
	}
	checkGroupsApart(t, found, groups)
}

// checkGroupHull checks that the hull of a group holds its discs, and all roots that they hold.
func checkGroupHull(t *testing.T, list []impl.Disc, group []int64, roots []complex128) {
	t.Helper()
	hull, code := impl.HullOfGroup(list, group)
	if code != impl.ErrNone {
		t.Fatalf("HullOfGroup(%v, %v): code %d", discTexts(list), group, code)
	}
	for _, i := range group {
		if is, code := impl.IsInside(list[i], hull); !is || !isHeld(list[i], hull) || code != impl.ErrNone {
			t.Fatalf("IsInside(%s, %s) = %v, %d, for a hull", discText(list[i]), discText(hull), is, code)
		}
		for _, root := range roots {
			in, _ := impl.HasPoint(list[i], root)
			if held, code := impl.HasPoint(hull, root); in && !held || code != impl.ErrNone {
				t.Fatalf("%v is in %s, but not in the hull %s", root, discText(list[i]), discText(hull))
			}
		}
	}
}

// checkGroupsApart checks that no discs of different groups touch, and that each disc is in one group.
func checkGroupsApart(t *testing.T, list []impl.Disc, groups [][]int64) {
	t.Helper()
	groupOf := map[int64]int{}
	for g, group := range groups {
		for _, i := range group {
			groupOf[i] = g
		}
	}
	if joined := slices.Concat(groups...); len(groupOf) != len(list) || len(joined) != len(list) {
		t.Fatalf("the groups of %v are %v", discTexts(list), groups)
	}
	for i, d := range list {
		for k, e := range list {
			touch, code := impl.DoTouch(d, e)
			gap, gapCode := impl.SeparationOf(d, e)
			if touch && (groupOf[int64(i)] != groupOf[int64(k)] || gap.Whole.Sign != 0) || code != impl.ErrNone || gapCode != impl.ErrNone {
				t.Fatalf("the discs %d and %d of %v touch: %v, %d, in %v, and are apart: %v", i, k, discTexts(list), touch, code, groups, binaryOf(gap))
			}
		}
	}
}

// forWholeRoots calls check with polynomials of small whole roots of all degrees.
func forWholeRoots(t *testing.T, seed uint64, times int, check func(r *rand.Rand, p, roots []complex128)) {
	t.Helper()
	r := newRandom(seed)
	for n := range times {
		p, roots := wholeRoots(r, 1+n%impl.MaxDegree)
		check(r, p, roots)
		if t.Failed() {
			return
		}
	}
}

func TestPromise9GroupsHoldAsManyRootsAsDiscs(t *testing.T) {
	var met rootCounts
	forWholeRoots(t, 441, 1200, func(r *rand.Rand, p, roots []complex128) {
		checkRootsInDiscs(t, p, roots, besideNumbers(r, roots), &met)
		if r.IntN(3) == 0 {
			checkRootsInDiscs(t, p, roots, moderates(r, len(roots)), &met)
		}
	})
	if met.groups < 3000 || met.joined < 500 {
		t.Errorf("just %d groups, and %d of several discs beside others", met.groups, met.joined)
	}
}

// Last coefficients other than 1, and roots that are multiples of powers of two.
func TestPromise9RootsOfMultiples(t *testing.T) {
	var met rootCounts
	r := newRandom(442)
	for range 600 {
		_, whole := wholeRoots(r, 1+r.IntN(6))
		p, roots := scaledRoots(whole, r.IntN(9)-6)
		multiple := timesNumber(p, []complex128{-1, 1i, 3 - 4i, 0x1p-12, 5}[r.IntN(5)])
		checkRootsInDiscs(t, multiple, roots, besideNumbers(r, roots), &met)
	}
	if met.groups < 1000 || met.joined < 50 {
		t.Errorf("just %d groups, and %d of several discs beside others", met.groups, met.joined)
	}
}

// Discs of points that the program itself finds: starting points, those of runs, and roots by
// deflation.
func TestPromise15DiscsOfPointsHoldAllRoots(t *testing.T) {
	var started, ran, deflated rootCounts
	forWholeRoots(t, 451, 600, func(r *rand.Rand, p, roots []complex128) {
		starting, code := impl.StartingPoints(p)
		if code != impl.ErrNone {
			t.Fatalf("StartingPoints(%v): code %d", p, code)
		}
		check := func(points []complex128, met *rootCounts) {
			var list []complex128
			for _, z := range points {
				if near := moderateNear(z); impl.IsModerate(near) && !slices.Contains(list, near) {
					list = append(list, near)
				}
			}
			if len(list) == len(roots) {
				checkRootsInDiscs(t, p, roots, list, met)
			}
		}
		check(starting, &started)
		run, code := impl.RunTogether(p, starting, impl.KindEhrlich, true, 0x1p-30, int64(r.IntN(60)))
		if code == impl.ErrNone {
			check(run.Points, &ran)
		}
		found, code := impl.RootsByDeflation(p)
		if code == impl.ErrNone {
			check(found, &deflated)
		}
	})
	if started.groups < 400 || ran.groups < 1000 || ran.joined < 200 || deflated.groups < 500 {
		t.Errorf("just %v, %v and %v groups of starting points, runs and deflation", started, ran, deflated)
	}
}

// At the roots themselves, if they are different, all radii are 0, and each root is alone.
func TestPromise15DiscsOfRootsArePoints(t *testing.T) {
	r := newRandom(452)
	for range 300 {
		roots := differentRoots(r, 1+r.IntN(impl.MaxDegree))
		p, _ := impl.PolynomialOfRoots(roots)
		var want []impl.Disc
		var groups [][]int64
		for i, z := range roots {
			want = append(want, disc(z, "0p0"))
			groups = append(groups, []int64{int64(i)})
		}
		checkDiscsOf(t, p, roots, want, impl.ErrNone)
		checkGroups(t, want, groups)
		checkCountIn(t, want, roots, slices.Repeat([]int64{1}, len(roots))...)
		greatest, code := impl.GreatestRadius(want)
		checkDyadic(t, "GreatestRadius", greatest, code, number("0p0"), impl.ErrNone)
	}
}

// A root that is met n times, and n points around it: one group of n discs, beside those of others.
func TestPromise15MultipleRoots(t *testing.T) {
	for n := 2; n <= 8; n++ {
		roots := append(slices.Repeat([]complex128{1 + 1i}, n), 100, -100i)
		p, _ := impl.PolynomialOfRoots(roots)
		list := []complex128{100 + 0x1p-20, -100i}
		for k := range n {
			power, _ := impl.TurnedPower(int64(k))
			list = append(list, moderateNear(1+1i+power*0x1p-12))
		}
		var met rootCounts
		checkRootsInDiscs(t, p, roots, list, &met)
		found, _ := impl.DiscsOf(p, list)
		groups, code := impl.GroupsOf(found)
		if len(groups) != 3 || len(groups[2]) != n || code != impl.ErrNone {
			t.Errorf("the groups of %v are %v, %d", discTexts(found), groups, code)
		}
	}
}

func TestPromise9GroupsOfAnyDiscsAreApart(t *testing.T) {
	forDiscLists(t, 443, func(_ *rand.Rand, list []impl.Disc) {
		groups, code := impl.GroupsOf(list)
		if code != impl.ErrNone {
			t.Fatalf("GroupsOf(%v): code %d", discTexts(list), code)
		}
		checkGroupsApart(t, list, groups)
		for _, group := range groups {
			if hull, code := impl.HullOfGroup(list, group); code == impl.ErrNone {
				if !impl.IsDisc(hull) {
					t.Errorf("the hull %s is no disc", discText(hull))
				}
				checkGroupHull(t, list, group, nil)
			}
		}
	})
}

// Hulls are not too large: with a radius that is less by one multiple they would not hold all discs.
func TestPromise9HullsAreTheLeast(t *testing.T) {
	forDiscLists(t, 444, func(r *rand.Rand, list []impl.Disc) {
		group := anyIndices(r, len(list))
		hull, code := impl.HullOfGroup(list, group)
		if code != impl.ErrNone {
			return
		}
		radius := minus(binaryOf(hull.Radius), number("1p-50"))
		less := impl.Disc{Centre: hull.Centre, Radius: dyadicOf(radius)}
		holdsAll := radius.whole.Sign() >= 0
		for _, i := range group {
			holdsAll = holdsAll && isHeld(list[i], less)
		}
		if holdsAll {
			t.Errorf("HullOfGroup(%v, %v) = %s is too large", discTexts(list), group, discText(hull))
		}
	})
}

// A disc that is inside another one has no points beyond it, and touches all discs that it holds.
func TestDiscsInsideOthersHaveNoOtherPoints(t *testing.T) {
	inside, points := 0, 0
	r := newRandom(445)
	forDiscPairs(t, 446, func(d, e impl.Disc) {
		is, code := impl.IsInside(d, e)
		touch, _ := impl.DoTouch(d, e)
		gap, _ := impl.SeparationOf(d, e)
		if code != impl.ErrNone || is && !touch || touch && gap.Whole.Sign != 0 {
			t.Fatalf("%s is inside %s: %v, %d, and touches it: %v, and they are apart: %v", discText(d), discText(e), is, code, touch, binaryOf(gap))
		}
		if !is {
			return
		}
		inside++
		radius, code := impl.FloatOf(d.Radius)
		if code != impl.ErrNone {
			return
		}
		for _, z := range []complex128{d.Centre, d.Centre + complex(radius, 0), d.Centre - complex(0, radius), d.Centre + turnedBy(r, radius)} {
			in, code := impl.HasPoint(d, z)
			other, otherCode := impl.HasPoint(e, z)
			if in && !other || code != impl.ErrNone || otherCode != impl.ErrNone {
				t.Fatalf("%v is in %s: %v, %d, and in %s: %v, %d", z, discText(d), in, code, discText(e), other, otherCode)
			}
			if in {
				points++
			}
		}
	})
	if inside < 2000 || points < 4000 {
		t.Errorf("just %d discs are inside others, with %d points", inside, points)
	}
}

// A moderate point belongs to a disc exactly if the disc of radius 0 around it is inside, or touches.
func TestPointsAreDiscsOfRadiusZero(t *testing.T) {
	forDiscPairs(t, 447, func(d, e impl.Disc) {
		point := impl.Disc{Centre: e.Centre}
		has, code := impl.HasPoint(d, e.Centre)
		is, isCode := impl.IsInside(point, d)
		touch, touchCode := impl.DoTouch(d, point)
		if has != is || has != touch || code != impl.ErrNone || isCode != impl.ErrNone || touchCode != impl.ErrNone {
			t.Errorf("%v belongs to %s: %v, %v, %v", e.Centre, discText(d), has, is, touch)
		}
	})
}

// Mirrors touch, hold each other, and are apart as the discs are; and mirrors of mirrors are the discs.
func TestMirrorsAreLikeTheDiscs(t *testing.T) {
	forDiscPairs(t, 448, func(d, e impl.Disc) {
		first, code := impl.MirrorDisc(d)
		second, secondCode := impl.MirrorDisc(e)
		back, backCode := impl.MirrorDisc(first)
		if code != impl.ErrNone || secondCode != impl.ErrNone || backCode != impl.ErrNone || !sameDisc(back, d) {
			t.Errorf("the mirror of %s is %s, and that of it is %s", discText(d), discText(first), discText(back))
		}
		touch, _ := impl.DoTouch(d, e)
		inside, _ := impl.IsInside(d, e)
		checkPair(t, "DoTouch", impl.DoTouch, pairCase{first, second, touch})
		checkPair(t, "IsInside", impl.IsInside, pairCase{first, second, inside})
		gap, _ := impl.SeparationOf(d, e)
		mirrored, code := impl.SeparationOf(first, second)
		checkDyadic(t, "SeparationOf mirrors", mirrored, code, binaryOf(gap), impl.ErrNone)
	})
}

// Nearer points have smaller discs, and the discs of good approximations are small.
func TestDiscsOfGoodPointsAreSmall(t *testing.T) {
	r := newRandom(449)
	for range 200 {
		roots := differentRoots(r, 1+r.IntN(8))
		p, _ := impl.PolynomialOfRoots(roots)
		var list []complex128
		for _, z := range roots {
			list = append(list, moderateNear(z+turnedBy(r, 0x1p-40)))
		}
		found, _ := impl.DiscsOf(p, list)
		greatest, code := impl.GreatestRadius(found)
		if x, _ := impl.FloatOf(greatest); code != impl.ErrNone || x > float64(len(roots))*0x1p-39 || x < math.Ldexp(1, -41) {
			t.Errorf("the greatest radius of %v is %g, %d", discTexts(found), x, code)
		}
		if groups, code := impl.GroupsOf(found); len(groups) != len(roots) || code != impl.ErrNone {
			t.Errorf("the groups of %v are %v, %d", discTexts(found), groups, code)
		}
	}
}
