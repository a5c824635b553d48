package tests

import (
	"fmt"
	"math/big"
	"math/rand/v2"
	"slices"
	"testing"

	"loop.example/g01156/impl"
)

func checkGroups(t *testing.T, list []impl.Disc, want [][]int64) {
	t.Helper()
	if groups, code := impl.GroupsOf(list); !sameGroups(groups, want) || code != impl.ErrNone {
		t.Errorf("GroupsOf(%v) = %v, %d, want %v", discTexts(list), groups, code, want)
	}
}

type groupsCase struct {
	list []impl.Disc
	want [][]int64
}

func TestGroupsOf(t *testing.T) {
	near, far := discs("1p0", 0, 2, 4, 6, 8), discs("2^50-1p-50", 0, 2, 4, 6, 8)
	for _, c := range []groupsCase{
		{[]impl.Disc{disc(1, "0p0"), disc(3, "1p1")}, [][]int64{{0, 1}}},
		{discs("0p0", 1, 2), [][]int64{{0}, {1}}},
		{discs("0p0", 7), [][]int64{{0}}},
		{discs(greatestRadius, 7), [][]int64{{0}}},
		// All in one group, and each one in its own.
		{near, [][]int64{{0, 1, 2, 3, 4}}},
		{far, [][]int64{{0}, {1}, {2}, {3}, {4}}},
		{slices.Repeat(discs("0p0", 3i), 12), [][]int64{{0, 1, 2, 3, 4, 5, 6, 7, 8, 9, 10, 11}}},
		{discs("0p0", 0, 1, 2, 3, 4, 5, 6, 7, 8, 9, 10, 11), [][]int64{{0}, {1}, {2}, {3}, {4}, {5}, {6}, {7}, {8}, {9}, {10}, {11}}},
		{discs("0p0", 0, complex(negative, negative)), [][]int64{{0, 1}}},
		// Ways over several discs, in other orders.
		{discs("1p0", 0, 6, 4, 2), [][]int64{{0, 1, 2, 3}}},
		{discs("1p0", 6, 0, 4, 2), [][]int64{{0, 1, 2, 3}}},
		{discs("1p0", 0, 8, 2, 6, 4), [][]int64{{0, 1, 2, 3, 4}}},
		{discs("1p0", 0, 9, 2, 7, 4), [][]int64{{0, 2, 4}, {1, 3}}},
		{discs("1p0", 9, 0, 5, 2, 7), [][]int64{{0, 2, 4}, {1, 3}}},
		{discs("1p0", 5, 20, 9, 0, 7, 2, 20i), [][]int64{{0, 2, 4}, {1}, {3, 5}, {6}}},
		{discs("1p-1", 0, 5, 4, 3, 2, 1, 9, 8, 7, 12, 11), [][]int64{{0, 1, 2, 3, 4, 5}, {6, 7, 8}, {9, 10}}},
		// The last disc, or the first one, joins all others.
		{append(slices.Clone(far), disc(4, "1p2")), [][]int64{{0, 1, 2, 3, 4, 5}}},
		{append(discs("5p0", 4), far...), [][]int64{{0, 1, 2, 3, 4, 5}}},
		{append(slices.Clone(far), disc(1i+7, "1p0")), [][]int64{{0}, {1}, {2}, {3, 4, 5}}},
		// Touching in one point, and not.
		{[]impl.Disc{disc(0, "1p1"), disc(9, "0p0"), disc(3+4i, "3p0")}, [][]int64{{0, 2}, {1}}},
		{[]impl.Disc{disc(0, "1p1"), disc(9, "0p0"), disc(3+4i, "3377699720527871p-50")}, [][]int64{{0}, {1}, {2}}},
	} {
		checkGroups(t, c.list, c.want)
	}
}

// A chain of discs in all orders.
func TestGroupsOfChainsInAllOrders(t *testing.T) {
	orders := [][]int{{}}
	for n := range 6 {
		var longer [][]int
		for _, order := range orders {
			for place := range n + 1 {
				longer = append(longer, slices.Insert(slices.Clone(order), place, n))
			}
		}
		orders = longer
	}
	for _, order := range orders {
		var chain, broken []impl.Disc
		both := make([][]int64, 2)
		for i, n := range order {
			chain = append(chain, disc(complex(float64(2*n), float64(n)), "5p-2"))
			broken = append(broken, disc(complex(float64(2*n+n/3), 0), "1p0"))
			both[n/3] = append(both[n/3], int64(i))
		}
		if both[0][0] != 0 {
			slices.Reverse(both)
		}
		checkGroups(t, chain, [][]int64{{0, 1, 2, 3, 4, 5}})
		checkGroups(t, broken, both)
	}
	if len(orders) != 720 {
		t.Errorf("there are %d orders", len(orders))
	}
}

func TestGroupsOfAnyDiscs(t *testing.T) {
	several, single := 0, 0
	forDiscLists(t, 421, func(_ *rand.Rand, list []impl.Disc) {
		want := groupsByWays(list)
		checkGroups(t, list, want)
		if len(want) > 1 && len(want) < len(list) {
			several++
		}
		if len(want) == 1 && len(list) > 1 {
			single++
		}
	})
	if several < 200 || single < 300 {
		t.Errorf("just %d lists have several groups, and %d a single one", several, single)
	}
}

func TestGreatestRadius(t *testing.T) {
	check := func(list []impl.Disc, want binary) {
		t.Helper()
		d, code := impl.GreatestRadius(list)
		checkDyadic(t, fmt.Sprintf("GreatestRadius(%v)", discTexts(list)), d, code, want, impl.ErrNone)
	}
	check([]impl.Disc{disc(1, "0p0"), disc(3, "1p1")}, number("1p1"))
	check([]impl.Disc{disc(1, "1p1"), disc(3, "0p0")}, number("1p1"))
	check(discs("0p0", 1), number("0p0"))
	check(discs("0p0", 1, 2, 3), number("0p0"))
	check(discs(greatestRadius, 1), number(greatestRadius))
	// Met more than once.
	check(discs("3p-2", 1, 1, 2), number("3p-2"))
	check([]impl.Disc{disc(1, "3p0"), disc(1, "1p0"), disc(1, "3p0"), disc(2, "1p1"), disc(3, "3p0")}, number("3p0"))
	// Radii that differ by the least multiple, whole parts that are less with greater exponents.
	check([]impl.Disc{disc(1, belowFive), disc(1, aboveFive), disc(1, "5p0")}, number(aboveFive))
	check([]impl.Disc{disc(1, "5p0"), disc(1, aboveFive), disc(1, belowFive)}, number(aboveFive))
	check([]impl.Disc{disc(1, "1p10"), disc(1, "1023p0"), disc(1, "1p-50")}, number("1p10"))
	check([]impl.Disc{disc(1, "1p1199"), disc(1, greatestRadius), disc(1, "0p0")}, number(greatestRadius))
	for place := range 12 {
		list := slices.Repeat(discs("1p-50", 4i), 12)
		list[place].Radius = dyadic("3p-50")
		check(list, number("3p-50"))
	}
	forDiscLists(t, 422, func(_ *rand.Rand, list []impl.Disc) {
		greatest := binary{new(big.Int), 0}
		for _, d := range list {
			if radius := binaryOf(d.Radius); compare(radius, greatest) > 0 {
				greatest = radius
			}
		}
		check(list, greatest)
	})
}

func checkHull(t *testing.T, list []impl.Disc, group []int64, want impl.Disc, wantCode int64) {
	t.Helper()
	d, code := impl.HullOfGroup(list, group)
	checkDisc(t, fmt.Sprintf("HullOfGroup(%v, %v)", discTexts(list), group), d, code, want, wantCode)
}

func TestHullOfGroup(t *testing.T) {
	list := []impl.Disc{
		disc(1, "0p0"), disc(3, "1p1"), disc(1+1i, "1p-1"), disc(complex(negative, 2), "1p-50"), disc(-100, "7p0"), disc(2+1i, "1p0"),
	}
	for _, c := range []struct {
		group []int64
		want  impl.Disc
	}{
		{[]int64{0, 1}, disc(1, "1p2")},
		// One disc, and groups that begin not with the index 0.
		{[]int64{0}, list[0]},
		{[]int64{1}, list[1]},
		{[]int64{3}, list[3]},
		{[]int64{5}, list[5]},
		{[]int64{2, 3}, disc(1+1i, "1592262918131445p-50")},
		{[]int64{3, 5}, disc(complex(negative, 2), "3643488634403412p-50")},
		{[]int64{1, 4}, disc(3, "110p0")},
		{[]int64{4, 5}, disc(-100, "115973209389366972p-50")},
		// The farthest disc is the first one itself, one in between, or the last one.
		{[]int64{1, 2}, disc(3, "3080538680982100p-50")},
		{[]int64{1, 5}, disc(3, "2718162824974068p-50")},
		{[]int64{0, 4, 5}, disc(1, "108p0")},
		{[]int64{0, 1, 2, 3, 4, 5}, disc(1, "108p0")},
		{[]int64{0, 1, 2, 3, 5}, disc(1, "1p2")},
	} {
		checkHull(t, list, c.group, c.want, impl.ErrNone)
	}
	// The disc of the hull is greater than all others.
	checkHull(t, []impl.Disc{disc(0, "9p0"), disc(3+4i, "1p0"), disc(-1, "1p0")}, []int64{0, 1, 2}, disc(0, "9p0"), impl.ErrNone)
	// Distances that are rounded up: of the least difference, and just above a multiple.
	checkHull(t, discs("0p0", 0, 0x1p-60), []int64{0, 1}, disc(0, "1p-50"), impl.ErrNone)
	checkHull(t, discs("1p0", 0, 0x1p-50), []int64{0, 1}, disc(0, "2^50+1p-50"), impl.ErrNone)
	checkHull(t, discs("1p0", 0, 0x1p-50+0x1p-60i), []int64{0, 1}, disc(0, "2^50+2p-50"), impl.ErrNone)
	checkHull(t, discs("1p0", -0x1p30, 0x1p30+0x1p-60i), []int64{0, 1}, disc(-0x1p30, "2^81+1125899906842625p-50"), impl.ErrNone)
	checkHull(t, discs("1p0", -0x1p30, 0x1p30), []int64{0, 1}, disc(-0x1p30, "2^31+1p0"), impl.ErrNone)
	checkHull(t, discs("1p0", 1+1i, 0), []int64{0, 1}, disc(1+1i, "2718162824974068p-50"), impl.ErrNone)
	// Equal centres.
	checkHull(t, []impl.Disc{disc(complex(0, negative), "0p0"), disc(0, "3p0")}, []int64{0, 1}, disc(complex(0, negative), "3p0"), impl.ErrNone)
}

// The greatest radius of a hull, and hulls that are too large.
func TestHullsHaveALimit(t *testing.T) {
	list := []impl.Disc{disc(0, greatestRadius), disc(0, greatestRadius), disc(1, "1p0"), disc(0x1p-60, greatestRadius), disc(1, "2^1250-2p-50")}
	for _, c := range []struct {
		group []int64
		want  string
	}{
		{[]int64{0}, greatestRadius},
		{[]int64{3}, greatestRadius},
		{[]int64{0, 1}, greatestRadius},
		{[]int64{0, 2}, greatestRadius},
		{[]int64{0, 1, 2}, greatestRadius},
		{[]int64{0, 3}, ""},
		{[]int64{0, 1, 2, 3}, ""},
		{[]int64{1, 3}, ""},
		{[]int64{2, 3}, ""},
		{[]int64{2, 4}, "2^1250-2p-50"},
		{[]int64{0, 4}, ""},
		{[]int64{3, 4}, ""},
	} {
		if c.want == "" {
			checkHull(t, list, c.group, impl.Disc{}, impl.ErrLimit)
		} else {
			checkHull(t, list, c.group, disc(list[c.group[0]].Centre, c.want), impl.ErrNone)
		}
	}
	// 2^1200 exactly, and the last multiple before.
	near := discs("2^1250-4p-50", 0, 0x1p-49+0x1p-50, 0x1p-48, 0x1p-49+0x1p-50+0x1p-60)
	checkHull(t, near, []int64{0, 1}, disc(0, greatestRadius), impl.ErrNone)
	checkHull(t, near, []int64{0, 2}, impl.Disc{}, impl.ErrLimit)
	checkHull(t, near, []int64{0, 3}, impl.Disc{}, impl.ErrLimit)
}

func TestHullsOfAnyDiscs(t *testing.T) {
	limits := 0
	forDiscLists(t, 423, func(r *rand.Rand, list []impl.Disc) {
		for _, group := range append(groupsByWays(list), anyIndices(r, len(list))) {
			want, code := hullByParts(list, group), int64(impl.ErrNone)
			if compare(binaryOf(want.Radius), number("1p1200")) >= 0 {
				code = impl.ErrLimit
				limits++
			}
			checkHull(t, list, group, want, code)
		}
	})
	if limits < 50 {
		t.Errorf("just %d hulls are too large", limits)
	}
}

func checkCountIn(t *testing.T, list []impl.Disc, points []complex128, want ...int64) {
	t.Helper()
	if counts, code := impl.CountIn(list, points); !slices.Equal(counts, want) || code != impl.ErrNone {
		t.Errorf("CountIn(%v, %v) = %v, %d, want %v", discTexts(list), points, counts, code, want)
	}
}

func TestCountIn(t *testing.T) {
	both := []impl.Disc{disc(1, "0p0"), disc(3, "1p1")}
	checkCountIn(t, both, []complex128{1, 2, 9}, 2)
	list := []impl.Disc{disc(0, "1p0"), disc(10, "1p0"), disc(1, "1p0"), disc(20, "0p0")}
	// No points, points in no disc, in several discs of a group, and in the discs of several groups.
	checkCountIn(t, list, nil, 0, 0, 0)
	checkCountIn(t, list, []complex128{}, 0, 0, 0)
	checkCountIn(t, list, []complex128{5, -2, 20i, 1e300, complex(20, tiny)}, 0, 0, 0)
	checkCountIn(t, list, []complex128{0.5}, 1, 0, 0)
	checkCountIn(t, list, []complex128{0.5, -1, 2, 1i, 1 - 1i, 10, 20}, 5, 1, 1)
	checkCountIn(t, list, []complex128{20, 11, 9, 10 + 1i}, 0, 3, 1)
	// Numbers that are met more than once.
	checkCountIn(t, list, []complex128{0.5, 0.5, 20, 5, 20, 5, 20}, 2, 0, 3)
	checkCountIn(t, list, []complex128{0, complex(negative, negative), 20, complex(20, negative)}, 2, 0, 2)
	// On the edge and beside it.
	checkCountIn(t, list, []complex128{-1, complex(-1, tiny), 9, 9 - 0x1p-49, 11, 11 + 0x1p-49}, 1, 2, 0)
	// As many groups as discs, in the order of their least indices, and one group of all.
	checkCountIn(t, discs("0p0", 3, 1, 2), []complex128{1, 2, 2, 3, 3, 3}, 3, 1, 2)
	checkCountIn(t, discs("1p0", 4, 0, 2), []complex128{0, 1, 4, 5, 6}, 4)
	checkCountIn(t, discs(greatestRadius, 4), []complex128{complex(huge, huge), complex(tiny, -huge)}, 2)
	checkCountIn(t, slices.Repeat(discs("0p0", 1i), 12), []complex128{1i, 0, 1i}, 2)
	// As many points as allowed.
	checkCountIn(t, list, ones(100), 100, 0, 0)
	checkCountIn(t, list, slices.Repeat([]complex128{1, 10, 20, 30}, 25), 25, 25, 25)
}

func TestCountsOfAnyPoints(t *testing.T) {
	in, out := 0, 0
	forDiscLists(t, 424, func(r *rand.Rand, list []impl.Disc) {
		points := append(anyNumbers(r, r.IntN(20)), moderates(r, r.IntN(20))...)
		for _, d := range list {
			points = append(points, d.Centre, d.Centre+complex(float64(r.IntN(3)), 0), d.Centre-1i)
		}
		var want []int64
		for _, group := range groupsByWays(list) {
			count := int64(0)
			for _, z := range points {
				if slices.ContainsFunc(group, func(i int64) bool { return isPointOf(list[i], z) }) {
					count++
				}
			}
			want = append(want, count)
			in, out = in+int(count), out+len(points)-int(count)
		}
		checkCountIn(t, list, points, want...)
	})
	if in < 10000 || out < 10000 {
		t.Errorf("just %d points are in groups, and %d are not", in, out)
	}
}
