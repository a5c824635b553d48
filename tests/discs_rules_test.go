package tests

import (
	"fmt"
	"math"
	"slices"
	"testing"

	"loop.example/g01156/impl"
)

// discsCall has arguments of all functions of chapter 9 of discs. Each function takes those that it
// has; the single discs are the first ones of the list.
type discsCall struct {
	list   []impl.Disc
	z      complex128
	group  []int64
	points []complex128
}

// discsFunction returns whether all results are zero values, and the code.
type discsFunction func(c discsCall) (bool, int64)

// discsFunctions are the functions of one disc, of two discs, or of lists.
func discsFunctions(ofDiscs int) map[string]discsFunction {
	switch ofDiscs {
	case 1:
		return map[string]discsFunction{
			"HasPoint": func(c discsCall) (bool, int64) {
				has, code := impl.HasPoint(c.list[0], c.z)
				return !has, code
			},
			"MirrorDisc": func(c discsCall) (bool, int64) {
				d, code := impl.MirrorDisc(c.list[0])
				return sameDisc(d, impl.Disc{}), code
			},
		}
	case 2:
		return map[string]discsFunction{
			"DoTouch": func(c discsCall) (bool, int64) {
				is, code := impl.DoTouch(c.list[0], c.list[1])
				return !is, code
			},
			"IsInside": func(c discsCall) (bool, int64) {
				is, code := impl.IsInside(c.list[0], c.list[1])
				return !is, code
			},
			"SeparationOf": func(c discsCall) (bool, int64) {
				d, code := impl.SeparationOf(c.list[0], c.list[1])
				return sameDyadic(d, impl.Dyadic{}), code
			},
		}
	default:
		return map[string]discsFunction{
			"GroupsOf": func(c discsCall) (bool, int64) {
				groups, code := impl.GroupsOf(c.list)
				return len(groups) == 0, code
			},
			"GreatestRadius": func(c discsCall) (bool, int64) {
				d, code := impl.GreatestRadius(c.list)
				return sameDyadic(d, impl.Dyadic{}), code
			},
			"HullOfGroup": func(c discsCall) (bool, int64) {
				d, code := impl.HullOfGroup(c.list, c.group)
				return sameDisc(d, impl.Disc{}), code
			},
			"CountIn": func(c discsCall) (bool, int64) {
				counts, code := impl.CountIn(c.list, c.points)
				return len(counts) == 0, code
			},
		}
	}
}

// checkDiscsCall checks the code of a call of the functions of so many discs, and the zero values
// beside it.
func checkDiscsCall(t *testing.T, why string, ofDiscs int, c discsCall, wantCode int64) {
	t.Helper()
	for name, f := range discsFunctions(ofDiscs) {
		if isZero, code := f(c); !isZero || code != wantCode {
			t.Errorf("%s, %s: zero values %v, code %d, want %d", name, why, isZero, code, wantCode)
		}
	}
}

func TestDiscsMustBeDiscs(t *testing.T) {
	good := []impl.Disc{disc(1, "1p0"), disc(0, greatestRadius), disc(complex(0, negative), "0p0")}
	for why, bad := range badDiscs() {
		checkDiscsCall(t, why, 1, discsCall{list: []impl.Disc{bad}, z: 1}, impl.ErrInvalid)
		checkDiscsCall(t, why, 1, discsCall{list: []impl.Disc{bad}, z: complex(nan, inf)}, impl.ErrInvalid)
		for _, other := range append(slices.Clone(good), bad) {
			checkDiscsCall(t, why+", first one", 2, discsCall{list: []impl.Disc{bad, other}}, impl.ErrInvalid)
			checkDiscsCall(t, why+", second one", 2, discsCall{list: []impl.Disc{other, bad}}, impl.ErrInvalid)
		}
		for place := range 12 {
			list := slices.Repeat(good, 4)
			list[place] = bad
			// Beside indices that are not as told, hulls that are too large, and numbers that are not finite.
			for _, group := range [][]int64{{0}, {0, 1}, {11}, nil, {1, 0}, {-1}, {12}} {
				checkDiscsCall(t, why+" in a list", 3, discsCall{list: list, group: group}, impl.ErrInvalid)
			}
			checkDiscsCall(t, why+" in a list", 3, discsCall{list: list, points: []complex128{1, complex(nan, 0)}}, impl.ErrInvalid)
			checkDiscsCall(t, why+" in a list", 3, discsCall{list: list, points: ones(100)}, impl.ErrInvalid)
		}
		checkDiscsCall(t, why+" alone", 3, discsCall{list: []impl.Disc{bad}, group: []int64{0}, points: ones(1)}, impl.ErrInvalid)
	}
}

func TestHasPointNeedsAFiniteNumber(t *testing.T) {
	for _, z := range notFinites {
		for _, d := range append(discs(greatestRadius, 0, 0x1p30), disc(1, "0p0")) {
			if has, code := impl.HasPoint(d, z); has || code != impl.ErrInvalid {
				t.Errorf("HasPoint(%s, %v) = %v, %d", discText(d), z, has, code)
			}
		}
	}
}

// One disc and MaxDegree discs are allowed, no disc and one more are not, whatever else is wrong.
func TestListsOfDiscsHaveARange(t *testing.T) {
	for _, count := range []int{1, 2, 12} {
		c := discsCall{list: slices.Repeat(discs("1p0", 2), count), group: []int64{int64(count - 1)}, points: ones(3)}
		for name, f := range discsFunctions(3) {
			if isZero, code := f(c); isZero || code != impl.ErrNone {
				t.Errorf("%s of %d discs: zero values %v, code %d", name, count, isZero, code)
			}
		}
	}
	bad := impl.Disc{Centre: complex(nan, 0), Radius: dyadic("-1p0")}
	for _, c := range []discsCall{
		{}, {list: []impl.Disc{}}, {group: []int64{0}, points: ones(3)}, {points: ones(101)}, {points: []complex128{complex(0, inf)}},
	} {
		checkDiscsCall(t, "no discs", 3, c, impl.ErrRange)
		for _, count := range []int{13, 14, 24, 1000} {
			for _, d := range []impl.Disc{disc(1, "1p0"), disc(1, greatestRadius), bad} {
				c.list = slices.Repeat([]impl.Disc{d}, count)
				checkDiscsCall(t, fmt.Sprintf("%d discs", count), 3, c, impl.ErrRange)
				c.list[count/2] = bad
				checkDiscsCall(t, fmt.Sprintf("%d discs", count), 3, c, impl.ErrRange)
			}
		}
	}
}

func TestHullsNeedAscendingIndices(t *testing.T) {
	for _, radius := range []string{"0p0", "1p0", greatestRadius} {
		for _, count := range []int{1, 2, 5, 12} {
			// All hulls of several discs of the greatest radius are too large, too.
			var list []impl.Disc
			for n := range count {
				list = append(list, disc(complex(float64(n), 1), radius))
			}
			last := int64(count - 1)
			for _, group := range [][]int64{
				nil, {}, {-1}, {last + 1}, {0, 0}, {last, last}, {0, last + 1}, {-1, 0}, {last, last - 1}, {last, 0},
				{math.MinInt64}, {math.MaxInt64}, {0, math.MaxInt64}, {math.MinInt64, 0}, {1 << 32}, {0, 1 << 32}, {1<<63 - 1, 0},
				slices.Repeat([]int64{0}, 13), make([]int64, 1000),
			} {
				checkHull(t, list, group, impl.Disc{}, impl.ErrRange)
			}
		}
	}
	list := discs("1p0", 0, 1, 2, 3, 4)
	for _, group := range [][]int64{{0, 2, 1}, {1, 2, 2}, {0, 0, 1}, {2, 1, 3}, {0, 1, 2, 3, 4, 5}, {0, 1, 2, 3, 4, 4}, {-1, 0, 1}, {1, 3, 2, 4}, {4, 3, 2, 1, 0}} {
		checkHull(t, list, group, impl.Disc{}, impl.ErrRange)
	}
	checkHull(t, list, []int64{0, 1, 2, 3, 4}, disc(0, "5p0"), impl.ErrNone)
}

// Too many numbers come before discs that are none, and both before numbers that are not finite.
func TestCountInHasRanges(t *testing.T) {
	good, bad := discs("1p0", 1), []impl.Disc{disc(1, "1p0"), disc(1, "-1p0")}
	check := func(list []impl.Disc, points []complex128, wantCode int64) {
		t.Helper()
		if counts, code := impl.CountIn(list, points); len(counts) != 0 || code != wantCode {
			t.Errorf("CountIn of %d discs and %d numbers = %v, %d, want code %d", len(list), len(points), counts, code, wantCode)
		}
	}
	checkCountIn(t, good, ones(100), 100)
	for _, points := range [][]complex128{ones(101), ones(102), ones(2000), with(ones(101), 0, complex(nan, 0)), with(ones(101), 100, complex(0, inf))} {
		check(good, points, impl.ErrRange)
		check(bad, points, impl.ErrRange)
		check(nil, points, impl.ErrRange)
		check(slices.Repeat(bad, 7), points, impl.ErrRange)
	}
	for _, z := range notFinites {
		for _, points := range [][]complex128{{z}, {1, z}, {z, 1}, with(ones(100), 0, z), with(ones(100), 99, z)} {
			check(good, points, impl.ErrInvalid)
			check(bad, points, impl.ErrInvalid)
			check(slices.Repeat(good, 12), points, impl.ErrInvalid)
			check(slices.Repeat(good, 13), points, impl.ErrRange)
			check(nil, points, impl.ErrRange)
		}
	}
}

func TestDiscsOfNeedsPolynomialsAndFiniteNumbers(t *testing.T) {
	for _, p := range badPolynomials() {
		for _, list := range [][]complex128{nil, realList(1), realList(1, 3), ones(12), ones(max(len(p)-1, 0)), realList(1e300, 1e300), {complex(nan, 0)}} {
			checkDiscsOf(t, p, list, nil, impl.ErrInvalid)
		}
	}
	for _, z := range notFinites {
		for _, p := range [][]complex128{realList(2, -3, 1), realList(1e300, 1, 1), realList(1, 1), ones(13)} {
			degree := len(p) - 1
			for _, list := range [][]complex128{{z}, {z, 1}, {1, z}, {z, z}, {1, 1, z}, with(ones(degree), 0, z), with(ones(degree), degree-1, z), with(ones(2000), 1999, z)} {
				checkDiscsOf(t, p, list, nil, impl.ErrInvalid)
			}
		}
	}
}

// As many numbers as the degree are needed, also where numbers are equal or not moderate.
func TestDiscsOfNeedsAsManyNumbers(t *testing.T) {
	different := realList(0, 1, 2, 3, 4, 5, 6, 7, 8, 9, 10, 11, 12, 13, 14)
	for degree := 1; degree <= impl.MaxDegree; degree++ {
		p := ones(degree + 1)
		for _, count := range []int{0, 1, degree - 2, degree - 1, degree, degree + 1, degree + 2} {
			if count < 0 {
				continue
			}
			want := int64(impl.ErrRange)
			if count == degree {
				want = impl.ErrNone
			}
			if got, code := impl.DiscsOf(p, different[:count]); code != want || len(got) > degree {
				t.Errorf("DiscsOf of degree %d and %d numbers: %v, %d", degree, count, discTexts(got), code)
			}
			if count != degree {
				checkDiscsOf(t, p, ones(count), nil, impl.ErrRange)
				checkDiscsOf(t, with(p, 0, 1e300), different[:count], nil, impl.ErrRange)
				checkDiscsOf(t, p, slices.Repeat([]complex128{1e-300i}, count), nil, impl.ErrRange)
			}
		}
	}
	checkDiscsOf(t, realList(2, -3, 1), ones(2000), nil, impl.ErrRange)
}

func TestDiscsOfNeedsModerateNumbers(t *testing.T) {
	for _, x := range notModerates {
		for _, z := range []complex128{complex(x, 0), complex(-x, 1), complex(1, x), complex(negative, -x)} {
			for degree := 1; degree <= impl.MaxDegree; degree++ {
				p, list := ones(degree+1), realList(0, 1, 2, 3, 4, 5, 6, 7, 8, 9, 10, 11)[:degree]
				for place := range degree + 1 {
					checkDiscsOf(t, with(p, place, z), list, nil, impl.ErrState)
				}
				for place := range degree {
					checkDiscsOf(t, p, with(list, place, z), nil, impl.ErrState)
				}
			}
		}
	}
}

func TestDiscsOfNeedsDifferentNumbers(t *testing.T) {
	for degree := 2; degree <= impl.MaxDegree; degree++ {
		p, list := ones(degree+1), realList(0, 1, 2, 3, 4, 5, 6, 7, 8, 9, 10, 11)[:degree]
		for i := range degree {
			for k := range degree {
				if i != k {
					checkDiscsOf(t, p, with(list, i, list[k]), nil, impl.ErrState)
				}
			}
		}
	}
	// Equal by ==, and with other signs of 0.
	for _, c := range [][]complex128{
		{0, minusZeros[0]}, {minusZeros[1], 0}, {minusZeros[0], minusZeros[1]}, {minusZeros[2], minusZeros[2]},
		{1, complex(1, negative)}, {complex(negative, 1), 1i}, {complex(-2, negative), -2}, {complex(negative, -1), complex(0, -1)},
	} {
		checkDiscsOf(t, realList(2, -3, 1), c, nil, impl.ErrState)
		checkDiscsOf(t, realList(0, 2, -3, 1), []complex128{c[0], 7, c[1]}, nil, impl.ErrState)
	}
	// Numbers that differ in one part are different.
	if _, code := impl.DiscsOf(ones(5), []complex128{1 + 2i, 1 - 2i, 1, 2 + 1i}); code != impl.ErrNone {
		t.Errorf("DiscsOf of numbers with equal parts: code %d", code)
	}
}

// roomyDiscs gives a list with room behind it and behind the limbs of the radii, all of this memory,
// and a copy of it.
func roomyDiscs(list []impl.Disc) ([]impl.Disc, []impl.Disc, [][]int64, [][]int64) {
	var roomyOnes []impl.Disc
	var limbs, before [][]int64
	for _, d := range list {
		whole, all := roomy(integerOf(d.Radius.Whole))
		roomyOnes = append(roomyOnes, impl.Disc{Centre: d.Centre, Radius: impl.Dyadic{Whole: whole, Exponent: d.Radius.Exponent}})
		limbs, before = append(limbs, all), append(before, slices.Clone(all))
	}
	all := append(roomyOnes, slices.Repeat(discs("3p7", beyondList), 5)...)
	return all[:len(list)], all, limbs, before
}

// roomyIndices gives a list with room behind it, and all of this memory.
func roomyIndices(indices []int64) ([]int64, []int64) {
	all := append(slices.Clone(indices), slices.Repeat([]int64{beyond}, 5)...)
	return all[:len(indices)], all
}

// memoryLists are lists of discs that touch or not, with radii of several limbs and of none.
func memoryLists() [][]impl.Disc {
	return [][]impl.Disc{
		discs("0p0", 1), discs("3p-50", 0, 1), discs("1p0", 0, 1, 2), discs(greatestRadius, 0, 0), {disc(1, "0p0"), disc(3, "1p1")},
		{disc(complex(2, negative), "2^40+1p-50"), disc(0, "2^200-1p30"), disc(5i, "2^200-1p30")},
		{disc(9, aboveFive), disc(0, aboveFive), disc(1i, "1p-50"), disc(20, "0p0"), disc(8, "7p0")},
	}
}

// Arguments stay as they are, with the memory behind them, and results have memory of their own.
func TestDiscsOwnTheirMemory(t *testing.T) {
	for _, numbers := range memoryLists() {
		for i := range numbers {
			for k := range numbers {
				list, all, limbs, before := roomyDiscs(numbers)
				wholes := func(name string, results ...impl.Dyadic) {
					t.Helper()
					var owned []impl.Whole
					for _, d := range results {
						owned = append(owned, d.Whole)
					}
					checkOwn(t, name, owned, limbs, before)
					want := append(slices.Clone(numbers), slices.Repeat(discs("3p7", beyondList), 5)...)
					if !slices.EqualFunc(all, want, sameDisc) {
						t.Errorf("%s of %v changes it to %v", name, discTexts(want), discTexts(all))
					}
				}
				indices := []int64{int64(i)}
				if k > i {
					indices = append(indices, int64(k))
				}
				group, allGroup := roomyIndices(indices)
				points, allPoints := roomyList([]complex128{0, 1, 1, 9})
				impl.IsDisc(list[i])
				impl.DoTouch(list[i], list[k])
				impl.IsInside(list[i], list[k])
				impl.HasPoint(list[i], 0.1)
				impl.GroupsOf(list)
				impl.CountIn(list, points)
				wholes("one of the functions")
				checkRoomy(t, "CountIn", allPoints, []complex128{0, 1, 1, 9})
				separation, _ := impl.SeparationOf(list[i], list[k])
				wholes("SeparationOf", separation)
				mirrored, _ := impl.MirrorDisc(list[i])
				wholes("MirrorDisc", mirrored.Radius)
				greatest, _ := impl.GreatestRadius(list)
				wholes("GreatestRadius", greatest)
				hull, _ := impl.HullOfGroup(list, group)
				wholes("HullOfGroup", hull.Radius)
				if _, want := roomyIndices(indices); !slices.Equal(allGroup, want) {
					t.Errorf("HullOfGroup changes its indices to %v", allGroup)
				}
			}
		}
	}
}

// No group shares memory with another one, with its discs, or with those of one more call.
func TestGroupsOwnTheirMemory(t *testing.T) {
	r := newRandom(431)
	for range 300 {
		list := anyDiscs(r)
		want := groupsByWays(list)
		first, _ := impl.GroupsOf(list)
		second, _ := impl.GroupsOf(list)
		for i, group := range first {
			all := group[:cap(group)]
			for k := range all {
				all[k] = beyond
			}
			if !sameGroups(first[i+1:], want[i+1:]) || !sameGroups(second, want) {
				t.Fatalf("GroupsOf(%v): the group %d shares memory", discTexts(list), i)
			}
		}
		for i := range first[:cap(first)] {
			first[:cap(first)][i] = nil
		}
		checkGroups(t, list, want)
		counts, _ := impl.CountIn(list, ones(3))
		wantCounts := slices.Clone(counts)
		for i := range counts[:cap(counts)] {
			counts[:cap(counts)][i] = beyond
		}
		checkCountIn(t, list, ones(3), wantCounts...)
	}
}

func TestDiscsOfOwnTheirMemory(t *testing.T) {
	for _, numbers := range [][2][]complex128{
		{realList(2, -3, 1), realList(1, 3)}, {realList(2, -3, 1), realList(0, 4)}, {realList(-3, 1), realList(3)}, {realList(1, 0, 1), realList(0, 0x1p-60)},
		{ones(13), realList(0, 1, 2, 3, 4, 5, 6, 7, 8, 9, 10, 11)}, {realList(0, 0, 0, 1), realList(1, -1, 2)},
	} {
		p, allP := roomyList(numbers[0])
		list, allList := roomyList(numbers[1])
		want, _ := impl.DiscsOf(numbers[0], numbers[1])
		got, _ := impl.DiscsOf(p, list)
		checkRoomy(t, "DiscsOf", allP, numbers[0])
		checkRoomy(t, "DiscsOf", allList, numbers[1])
		writeOver(allP)
		writeOver(allList)
		if !slices.EqualFunc(got, want, sameDisc) {
			t.Errorf("DiscsOf(%v, %v): the result shares memory", numbers[0], numbers[1])
		}
		var radii []impl.Whole
		var limbs, before [][]int64
		for i := range got {
			radii = append(radii, got[i].Radius.Whole)
			limbs, before = append(limbs, want[i].Radius.Whole.Limbs), append(before, slices.Clone(want[i].Radius.Whole.Limbs))
		}
		checkOwn(t, "DiscsOf", radii, limbs, before)
		checkDiscsOf(t, numbers[0], numbers[1], want, impl.ErrNone)
	}
}

// Radii of 0 may have empty limbs or none, and one disc may stand in both places.
func TestDiscsWithEmptyLimbsAndWithThemselves(t *testing.T) {
	empty := disc(1, "0p0")
	empty.Radius.Whole.Limbs = []int64{}
	point := disc(1, "0p0")
	point.Radius.Whole.Limbs = nil
	checkPair(t, "DoTouch", impl.DoTouch, pairCase{empty, point, true})
	checkPair(t, "IsInside", impl.IsInside, pairCase{point, empty, true})
	checkHasPoint(t, empty, 1, true)
	checkGroups(t, []impl.Disc{empty, point, empty}, [][]int64{{0, 1, 2}})
	checkHull(t, []impl.Disc{empty, point}, []int64{0, 1}, point, impl.ErrNone)
	d, code := impl.GreatestRadius([]impl.Disc{empty})
	checkDyadic(t, "GreatestRadius", d, code, number("0p0"), impl.ErrNone)
	mirrored, code := impl.MirrorDisc(empty)
	checkDisc(t, "MirrorDisc", mirrored, code, disc(complex(1, negative), "0p0"), impl.ErrNone)
	r := newRandom(432)
	for range 300 {
		d := anyDisc(r, disc(1, "1p0"))
		same := impl.Disc{Centre: d.Centre, Radius: dyadicOf(binaryOf(d.Radius))}
		checkPair(t, "DoTouch", impl.DoTouch, pairCase{d, d, true})
		checkPair(t, "IsInside", impl.IsInside, pairCase{d, d, true})
		gap, code := impl.SeparationOf(d, d)
		checkDyadic(t, "SeparationOf", gap, code, number("0p0"), impl.ErrNone)
		if !sameDisc(d, same) {
			t.Errorf("%s becomes %s", discText(same), discText(d))
		}
	}
}
