package tests

import (
	"fmt"
	"math"
	"slices"
	"testing"

	"loop.example/g01156/impl"
)

// answersCall has arguments of all functions of chapter 10. Each function takes those that it has.
type answersCall struct {
	p, list       []complex128
	a, b          impl.Answer
	g, kind, most int64
	z             complex128
	r             float64
}

// answersFunction returns whether all results are zero values, and the code.
type answersFunction func(c answersCall) (bool, int64)

func isZeroAnswer(a impl.Answer) bool {
	return len(a.Points) == 0 && len(a.Discs) == 0 && len(a.Groups) == 0
}

// functionsOfAnswers take a polynomial and an answer of it.
func functionsOfAnswers() map[string]answersFunction {
	return map[string]answersFunction{
		"MultiplicityOf": func(c answersCall) (bool, int64) {
			n, code := impl.MultiplicityOf(c.p, c.a, c.g)
			return n == 0, code
		},
		"MiddleOf": func(c answersCall) (bool, int64) {
			z, code := impl.MiddleOf(c.p, c.a, c.g)
			return sameWide(z, 0), code
		},
		"KindsOfGroups": func(c answersCall) (bool, int64) {
			kinds, code := impl.KindsOfGroups(c.p, c.a)
			return len(kinds) == 0, code
		},
		"PartnersOf": func(c answersCall) (bool, int64) {
			partners, code := impl.PartnersOf(c.p, c.a)
			return len(partners) == 0, code
		},
		"RefineAnswer": func(c answersCall) (bool, int64) {
			a, is, code := impl.RefineAnswer(c.p, c.a, c.kind, c.g == 0, c.most)
			return isZeroAnswer(a) && !is, code
		},
	}
}

// functionsOfPolynomials take a polynomial, of the wide width or of the narrow one.
func functionsOfPolynomials() map[string]answersFunction {
	return map[string]answersFunction{
		"AnswerOf": func(c answersCall) (bool, int64) {
			a, code := impl.AnswerOf(c.p, c.list)
			return isZeroAnswer(a), code
		},
		"AnswerByDeflation": func(c answersCall) (bool, int64) {
			a, code := impl.AnswerByDeflation(c.p)
			return isZeroAnswer(a), code
		},
		"SensitivityOf": func(c answersCall) (bool, int64) {
			x, code := impl.SensitivityOf(c.p, c.z)
			return sameFloat(x, 0), code
		},
		"NarrowAnswer": func(c answersCall) (bool, int64) {
			a, code := impl.NarrowAnswer(narrowList(c.p), c.kind, c.g == 0, c.most)
			return isZeroAnswer(a), code
		},
		"SolveBoth": func(c answersCall) (bool, int64) {
			a, b, is, code := impl.SolveBoth(narrowList(c.p), c.kind, c.g == 0, c.most)
			return isZeroAnswer(a) && isZeroAnswer(b) && !is, code
		},
	}
}

// functionsOfNumbers take numbers, or answers without a polynomial.
func functionsOfNumbers() map[string]answersFunction {
	return map[string]answersFunction{
		"MakeModerate": func(c answersCall) (bool, int64) {
			z, code := impl.MakeModerate(c.z)
			return sameWide(z, 0), code
		},
		"SeparatePoints": func(c answersCall) (bool, int64) {
			points, code := impl.SeparatePoints(c.list)
			return len(points) == 0, code
		},
		"ClustersOf": func(c answersCall) (bool, int64) {
			clusters, code := impl.ClustersOf(c.list, c.r)
			return len(clusters) == 0, code
		},
		"IsWithin": func(c answersCall) (bool, int64) {
			is, code := impl.IsWithin(c.b, c.a)
			return !is, code
		},
	}
}

// checkAnswersCall checks the code of a call of some functions, and the zero values beside it.
func checkAnswersCall(t *testing.T, why string, functions map[string]answersFunction, c answersCall, wantCode int64, names ...string) {
	t.Helper()
	for name, f := range functions {
		if len(names) > 0 && !slices.Contains(names, name) {
			continue
		}
		if isZero, code := f(c); !isZero || code != wantCode {
			t.Errorf("%s, %s: zero values %v, code %d, want %d", name, why, isZero, code, wantCode)
		}
	}
}

func TestAnswersNeedPolynomials(t *testing.T) {
	a, _ := impl.AnswerOf(realList(2, -3, 1), realList(1, 2))
	for _, p := range badPolynomials() {
		// Beside lists, groups, kinds and numbers of steps that are not in their ranges.
		for _, c := range []answersCall{
			{p: p, list: realList(1, 2), a: a, kind: impl.KindEhrlich, most: 5, z: 1},
			{p: p, list: ones(max(len(p)-1, 0)), kind: 2, most: 5, g: -1},
			{p: p, list: ones(101), a: a, kind: 1, most: 201, g: 2, z: 1e300},
			{p: p, list: realList(1e300), kind: -1, most: -1},
			{p: p, list: []complex128{complex(nan, 0)}, z: complex(0, inf)},
		} {
			checkAnswersCall(t, fmt.Sprintf("no polynomial: %v", p), functionsOfPolynomials(), c, impl.ErrInvalid)
			checkAnswersCall(t, fmt.Sprintf("no polynomial: %v", p), functionsOfAnswers(), c, impl.ErrInvalid)
		}
	}
}

func TestAnswersNeedFiniteNumbers(t *testing.T) {
	square := realList(2, -3, 1)
	for _, z := range notFinites {
		why := fmt.Sprintf("with %v", z)
		checkAnswersCall(t, why, functionsOfNumbers(), answersCall{z: z}, impl.ErrInvalid, "MakeModerate")
		for _, p := range [][]complex128{square, realList(0, 0, 1), realList(1e300, 1e300), realList(1, 0x1p31)} {
			checkAnswersCall(t, why, functionsOfPolynomials(), answersCall{p: p, z: z}, impl.ErrInvalid, "SensitivityOf")
			for _, list := range [][]complex128{{z}, {z, 1}, {1, z}, {1, 1, z}, {1e300, z}, with(ones(12), 11, z), with(ones(2000), 0, z)} {
				checkAnswersCall(t, why, functionsOfPolynomials(), answersCall{p: p, list: list}, impl.ErrInvalid, "AnswerOf")
			}
		}
		for _, count := range []int{1, 2, 100, 101, 102, 2000} {
			for _, place := range []int{0, count / 2, count - 1} {
				for _, other := range []complex128{1, 0x1p31} {
					list := with(slices.Repeat([]complex128{other}, count), place, z)
					for _, r := range []float64{1, 0, -1} {
						checkAnswersCall(t, why, functionsOfNumbers(), answersCall{list: list, r: r}, impl.ErrInvalid, "SeparatePoints", "ClustersOf")
					}
				}
			}
		}
	}
	for _, r := range []float64{nan, inf, -inf} {
		for _, list := range [][]complex128{nil, ones(1), ones(100), ones(101), {complex(nan, 0)}} {
			checkAnswersCall(t, fmt.Sprintf("with %g", r), functionsOfNumbers(), answersCall{list: list, r: r}, impl.ErrInvalid, "ClustersOf")
		}
	}
}

// As many numbers as the degree are needed, also beside coefficients that are not moderate, and numbers
// beyond 2^30.
func TestAnswersNeedAsManyNumbers(t *testing.T) {
	for degree := 1; degree <= impl.MaxDegree; degree++ {
		p := ones(degree + 1)
		for _, count := range []int{0, 1, degree - 1, degree, degree + 1, degree + 2, 101} {
			if count == degree {
				if a, code := impl.AnswerOf(p, ones(count)); len(a.Points) != degree || code != impl.ErrNone {
					t.Errorf("AnswerOf of degree %d: %s, %d", degree, answerText(a), code)
				}
				continue
			}
			for _, z := range []complex128{1, 0x1p31, 1e-30} {
				list := slices.Repeat([]complex128{z}, count)
				for _, last := range []complex128{1, 1e300, 0x1p-61} {
					checkAnswersCall(t, fmt.Sprintf("degree %d, %d numbers", degree, count), functionsOfPolynomials(), answersCall{p: with(p, degree, last), list: list}, impl.ErrRange, "AnswerOf")
				}
			}
		}
	}
}

// Coefficients that are not moderate come before numbers beyond 2^30.
func TestAnswersNeedModerateCoefficients(t *testing.T) {
	for _, x := range notModerates {
		for _, z := range []complex128{complex(x, 0), complex(-x, 1), complex(1, x), complex(negative, -x)} {
			for degree := 1; degree <= impl.MaxDegree; degree++ {
				for _, list := range [][]complex128{ones(degree), with(ones(degree), degree-1, 0x1p31), slices.Repeat([]complex128{-0x1p31i}, degree)} {
					for place := range degree + 1 {
						c := answersCall{p: with(ones(degree+1), place, z), list: list}
						checkAnswersCall(t, fmt.Sprintf("coefficient %v", z), functionsOfPolynomials(), c, impl.ErrState, "AnswerOf")
						// Where there is no answer, none is one of the polynomial.
						checkAnswersCall(t, fmt.Sprintf("coefficient %v", z), functionsOfAnswers(), c, impl.ErrInvalid)
					}
				}
			}
		}
	}
}

func TestAnswersHaveLimits(t *testing.T) {
	above := math.Nextafter(0x1p30, inf)
	for _, x := range []float64{above, -above, 0x1p31, -0x1p64, 1e300, huge} {
		for _, z := range []complex128{complex(x, 0), complex(0, x), complex(1e-30, -x), complex(x, x)} {
			why := fmt.Sprintf("with %v", z)
			checkAnswersCall(t, why, functionsOfNumbers(), answersCall{z: z, list: []complex128{z}}, impl.ErrLimit, "MakeModerate", "SeparatePoints")
			for degree := 1; degree <= impl.MaxDegree; degree++ {
				for place := range degree {
					c := answersCall{p: ones(degree + 1), list: with(ones(degree), place, z)}
					checkAnswersCall(t, why, functionsOfPolynomials(), c, impl.ErrLimit, "AnswerOf")
					checkAnswersCall(t, why, functionsOfNumbers(), c, impl.ErrLimit, "SeparatePoints")
				}
			}
			checkAnswersCall(t, why, functionsOfNumbers(), answersCall{list: with(ones(100), 99, z)}, impl.ErrLimit, "SeparatePoints")
			checkAnswersCall(t, why, functionsOfNumbers(), answersCall{list: with(ones(101), 100, z)}, impl.ErrRange, "SeparatePoints")
		}
	}
}

// Answers that are none of the polynomial come before all ranges, and coefficients that are not real.
func TestAnswersMustBeThoseOfThePolynomial(t *testing.T) {
	for _, c := range answeredCases() {
		a, _ := impl.AnswerOf(c.p, c.list)
		for why, b := range notAnswers(a) {
			calls := []answersCall{
				{p: c.p, a: b, g: -1, kind: 2, most: 201},
				{p: c.p, a: b, most: 1},
				{p: c.p, a: b, g: 12, kind: 1, most: -1},
			}
			if len(c.p) > 5 {
				calls = calls[:1]
			}
			for _, call := range calls {
				checkAnswersCall(t, why, functionsOfAnswers(), call, impl.ErrInvalid)
			}
		}
		for _, p := range [][]complex128{with(c.p, 0, 31+7i), append(slices.Clone(c.p), 1), c.p[1:], with(c.p, 0, 1e300)} {
			checkAnswersCall(t, "of another polynomial", functionsOfAnswers(), answersCall{p: p, a: a, most: 1}, impl.ErrInvalid)
		}
	}
}

// Kinds and numbers of steps that are none come before points that can't be made narrow, and behind
// answers that are none.
func TestKindsAndStepsOfAnswersHaveRanges(t *testing.T) {
	a, _ := impl.AnswerOf(realList(2, -3, 1), realList(1, 3))
	check := func(kind, most int64) {
		t.Helper()
		for _, g := range []int64{0, 1} {
			why := fmt.Sprintf("kind %d, %d steps", kind, most)
			checkAnswersCall(t, why, functionsOfAnswers(), answersCall{p: realList(2, -3, 1), a: a, g: g, kind: kind, most: most}, impl.ErrRange, "RefineAnswer")
			for _, p := range [][]complex128{realList(2, -3, 1), realList(-3e38, 1), realList(1, -1e-39), realList(0x1p31, 1), realList(0x1p30, 0x1p-60), ones(13)} {
				checkAnswersCall(t, why, functionsOfPolynomials(), answersCall{p: p, g: g, kind: kind, most: most}, impl.ErrRange, "NarrowAnswer", "SolveBoth")
			}
		}
	}
	for _, kind := range append([]int64{2, 3}, outOfRange...) {
		for _, most := range []int64{0, 1, 200, 201, -1} {
			check(kind, most)
		}
	}
	for _, most := range outOfRange {
		for _, kind := range []int64{0, 1, 2} {
			check(kind, most)
		}
	}
}

func TestIsWithinNeedsDiscsAndTheirGroups(t *testing.T) {
	good := []impl.Answer{grouped(disc(1, "1p0")), grouped(disc(0, "1p0"), disc(10, "0p0"), disc(1, "1p-1")), grouped(slices.Repeat(discs(greatestRadius, 0), 12)...)}
	check := func(why string, bad impl.Answer) {
		t.Helper()
		for _, a := range append(slices.Clone(good), bad, impl.Answer{}) {
			checkAnswersCall(t, "the first one with "+why, functionsOfNumbers(), answersCall{b: bad, a: a}, impl.ErrInvalid, "IsWithin")
			checkAnswersCall(t, "the second one with "+why, functionsOfNumbers(), answersCall{b: a, a: bad}, impl.ErrInvalid, "IsWithin")
		}
	}
	check("nothing", impl.Answer{})
	check("points alone", impl.Answer{Points: ones(2)})
	check("groups alone", impl.Answer{Groups: [][]int64{{0}}})
	for _, count := range []int{13, 14, 1000} {
		a := impl.Answer{Discs: slices.Repeat(discs("1p0", 0), count), Groups: [][]int64{{}}}
		for i := range count {
			a.Groups[0] = append(a.Groups[0], int64(i))
		}
		check(fmt.Sprintf("%d discs", count), a)
	}
	for why, d := range badDiscs() {
		check(why, impl.Answer{Discs: []impl.Disc{d}, Groups: [][]int64{{0}}})
		check(why, impl.Answer{Discs: []impl.Disc{disc(1, "1p0"), d}, Groups: [][]int64{{0, 1}}})
		check(why, impl.Answer{Discs: []impl.Disc{d, disc(1, "1p0")}, Groups: [][]int64{{0}, {1}}})
	}
	for _, a := range good {
		for why, groups := range notGroups(a.Groups, int64(len(a.Discs))) {
			b := copyOf(a)
			b.Groups = groups
			check(why, b)
		}
		checkWithin(t, a, a, true)
	}
}

func TestClustersHaveRanges(t *testing.T) {
	check := func(list []complex128, r float64) {
		t.Helper()
		checkAnswersCall(t, fmt.Sprintf("%d numbers and %g", len(list), r), functionsOfNumbers(), answersCall{list: list, r: r}, impl.ErrRange, "ClustersOf")
	}
	for _, r := range []float64{-tiny, -1, -1e300, -huge} {
		for _, count := range []int{0, 1, 2, 100, 101} {
			check(ones(count), r)
		}
	}
	for _, r := range []float64{0, negative, 1, huge} {
		for _, count := range []int{101, 102, 2000} {
			check(ones(count), r)
		}
	}
}

// roomyAnswer is an answer with room behind all of its lists.
func roomyAnswer(a impl.Answer) impl.Answer {
	points, _ := roomyList(a.Points)
	list, _, _, _ := roomyDiscs(a.Discs)
	var groups [][]int64
	for _, group := range a.Groups {
		roomyGroup, _ := roomyIndices(group)
		groups = append(groups, roomyGroup)
	}
	all := append(groups, slices.Repeat([][]int64{{beyond}}, 5)...)
	return impl.Answer{Points: points, Discs: list, Groups: all[:len(groups)]}
}

// memoryText tells all memory of an answer, also behind its lists.
func memoryText(a impl.Answer) string {
	text := fmt.Sprint(a.Points[:cap(a.Points)])
	for _, d := range a.Discs[:cap(a.Discs)] {
		text += fmt.Sprint(d.Centre, d.Radius.Exponent, d.Radius.Whole.Sign, d.Radius.Whole.Limbs[:cap(d.Radius.Whole.Limbs)])
	}
	for _, group := range a.Groups[:cap(a.Groups)] {
		text += fmt.Sprint(group[:cap(group)])
	}
	return text
}

// integersOf are all lists of integers of answers, with the memory behind them.
func integersOf(answers ...impl.Answer) [][]int64 {
	var lists [][]int64
	for _, a := range answers {
		for _, d := range a.Discs {
			lists = append(lists, d.Radius.Whole.Limbs[:cap(d.Radius.Whole.Limbs)])
		}
		for _, group := range a.Groups {
			lists = append(lists, group[:cap(group)])
		}
	}
	return lists
}

// checkOwnAnswers writes over all memory of answers, list by list, and finds no other list changed.
func checkOwnAnswers(t *testing.T, name string, answers ...impl.Answer) {
	t.Helper()
	lists := integersOf(answers...)
	for i, list := range lists {
		var before [][]int64
		for _, other := range lists {
			before = append(before, slices.Clone(other))
		}
		for k := range list {
			list[k] = -beyond - int64(i)
		}
		before[i] = slices.Clone(list)
		if !slices.EqualFunc(lists, before, slices.Equal[[]int64]) {
			t.Errorf("%s: two lists of integers share memory", name)
		}
	}
	for i, a := range answers {
		var before []impl.Answer
		for _, b := range answers {
			before = append(before, copyOfLists(b))
		}
		writeOver(a.Points)
		for k := range a.Discs[:cap(a.Discs)] {
			a.Discs[:cap(a.Discs)][k] = disc(-77, "3p9")
		}
		for k := range a.Groups[:cap(a.Groups)] {
			a.Groups[:cap(a.Groups)][k] = nil
		}
		for k, b := range answers {
			if k != i && !sameAnswer(copyOfLists(b), before[k]) {
				t.Errorf("%s: two answers share memory", name)
			}
		}
	}
}

// copyOfLists also takes answers that are written over.
func copyOfLists(a impl.Answer) impl.Answer {
	return impl.Answer{Points: slices.Clone(a.Points), Discs: slices.Clone(a.Discs), Groups: slices.Clone(a.Groups)}
}

// Arguments stay as they are, with the memory behind them, and results have memory of their own.
func TestAnswersOwnTheirMemory(t *testing.T) {
	for _, c := range answeredCases() {
		made, _ := impl.AnswerOf(c.p, c.list)
		a := roomyAnswer(made)
		p, allP := roomyList(c.p)
		list, allList := roomyList(c.list)
		before := memoryText(a)
		check := func(name string, results ...impl.Answer) {
			t.Helper()
			checkOwnAnswers(t, name, results...)
			if memoryText(a) != before {
				t.Errorf("%s changes an answer or shares memory with it", name)
			}
			checkRoomy(t, name, allP, c.p)
			checkRoomy(t, name, allList, c.list)
		}
		found, _ := impl.AnswerOf(p, list)
		again, _ := impl.AnswerOf(p, list)
		check("AnswerOf", found, again)
		for _, most := range []int64{0, 3} {
			refined, _, _ := impl.RefineAnswer(p, a, impl.KindEhrlich, true, most)
			other, _, _ := impl.RefineAnswer(p, a, impl.KindEhrlich, true, most)
			check("RefineAnswer", refined, other)
		}
		narrow := narrowList(p)
		first, second, _, _ := impl.SolveBoth(narrow, impl.KindEhrlich, true, 60)
		third, _ := impl.NarrowAnswer(narrow, impl.KindEhrlich, true, 60)
		check("SolveBoth", first, second, third)
		deflated, _ := impl.AnswerByDeflation(p)
		check("AnswerByDeflation", deflated)
		impl.IsAnswer(p, a)
		impl.IsWithin(a, a)
		impl.MultiplicityOf(p, a, 0)
		impl.MiddleOf(p, a, 0)
		impl.KindsOfGroups(p, a)
		impl.PartnersOf(p, a)
		impl.SensitivityOf(p, 1)
		points, _ := impl.SeparatePoints(list)
		clusters, _ := impl.ClustersOf(list, 1)
		check("one of the functions", impl.Answer{Points: points, Groups: clusters})
	}
}

// A refinement that stays has memory of its own, and so has the second answer of SolveBoth.
func TestAnswersThatStayOwnTheirMemory(t *testing.T) {
	for _, c := range []answeredCase{
		{realList(1, 0, 1), realList(0, 2)},
		{realList(1, 0x1p-40), realList(0)},
		{[]complex128{-1 + 1i, 2, 3 + 1i, 1}, []complex128{-2, -3, 1i}},
	} {
		made, _ := impl.AnswerOf(c.p, c.list)
		a := roomyAnswer(made)
		before := memoryText(a)
		b, isRefined, code := impl.RefineAnswer(c.p, a, impl.KindEhrlich, false, 2)
		if isRefined || !sameAnswer(b, made) || code != impl.ErrNone {
			t.Errorf("RefineAnswer(%v, %s) = %s, %v, %d", c.p, answerText(a), answerText(b), isRefined, code)
		}
		other, _, _ := impl.RefineAnswer(c.p, a, impl.KindEhrlich, false, 2)
		checkOwnAnswers(t, "RefineAnswer that stays", b, other)
		if memoryText(a) != before {
			t.Errorf("RefineAnswer of %s shares memory", answerText(made))
		}
	}
	first, second, isRefined, code := impl.SolveBoth([]complex64{-0.1, 0.3i}, impl.KindEhrlich, true, 60)
	if isRefined || !sameAnswer(first, second) || code != impl.ErrNone {
		t.Errorf("SolveBoth = %s, %s, %v, %d", answerText(first), answerText(second), isRefined, code)
	}
	checkOwnAnswers(t, "SolveBoth that stays", first, second)
}

// Kinds, partners, clusters and points are new in each call.
func TestListsOfAnswersOwnTheirMemory(t *testing.T) {
	p, list := realList(0, 0, -100, 1), []complex128{100, 0x1p-20, -0x1p-20}
	a, _ := impl.AnswerOf(p, list)
	call := func() [][]int64 {
		kinds, _ := impl.KindsOfGroups(p, a)
		partners, _ := impl.PartnersOf(p, a)
		clusters, _ := impl.ClustersOf(list, 1)
		return append([][]int64{kinds, partners}, clusters...)
	}
	want := [][]int64{{impl.GroupReal, impl.GroupUnknown}, {0, 1}, {0}, {1, 2}}
	for i := range want {
		got, again := call(), call()
		all := got[i][:cap(got[i])]
		for k := range all {
			all[k] = beyond
		}
		got[i] = want[i]
		if !sameGroups(got, want) || !sameGroups(again, want) || !sameGroups(call(), want) {
			t.Errorf("the lists %v and %v should be %v", got, again, want)
		}
	}
	first, _ := impl.SeparatePoints(list)
	writeOver(first)
	checkSeparated(t, list, list, impl.ErrNone)
}

// Empty lists of limbs and no limbs are the same.
func TestAnswersWithEmptyLimbs(t *testing.T) {
	p := realList(2, -3, 1)
	for _, limbs := range [][]int64{nil, {}, make([]int64, 0, 7)} {
		a := impl.Answer{Points: realList(1, 2), Discs: discs("0p0", 1, 2), Groups: [][]int64{{0}, {1}}}
		a.Discs[1].Radius.Whole.Limbs = limbs
		checkIsAnswer(t, "empty limbs", p, a, true)
		checkWithin(t, a, a, true)
		checkKinds(t, p, a, []int64{1, 1}, []int64{0, 1}, impl.ErrNone)
		checkRefined(t, p, a, impl.KindEhrlich, true, 5, a, true)
	}
}
