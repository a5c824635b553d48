package tests

import (
	"fmt"
	"math"
	"math/rand/v2"
	"slices"
	"testing"

	"loop.example/g01156/impl"
)

// narrowAnswerByParts takes the narrow run as chapters 6 and 7 make it.
func narrowAnswerByParts(t *testing.T, p []complex128, kind int64, turn bool, most int64) (impl.Answer, int64) {
	t.Helper()
	starting, code := impl.StartingPoints(p)
	if code != impl.ErrNone {
		return impl.Answer{}, code
	}
	points, code := impl.NarrowPoints(starting)
	if code != impl.ErrNone {
		return impl.Answer{}, code
	}
	run, code := impl.NarrowRunTogether(narrowList(p), points, kind, turn, 0.0001, most)
	if code != impl.ErrNone {
		return impl.Answer{}, code
	}
	if slices.ContainsFunc(p, func(z complex128) bool { return !impl.IsModerate(z) }) {
		return impl.Answer{}, impl.ErrState
	}
	return answerByParts(t, p, wideList(run.Points))
}

// checkSolved compares a narrow answer, and both of SolveBoth, with what the document writes, for the
// coefficients of a narrow polynomial. It returns whether the wide answer is refined, and the code.
func checkSolved(t *testing.T, p []complex128, kind int64, turn bool, most int64) (bool, int64) {
	t.Helper()
	name := fmt.Sprintf("of %v, %d, %v, %d", p, kind, turn, most)
	want, wantCode := narrowAnswerByParts(t, p, kind, turn, most)
	a, code := impl.NarrowAnswer(narrowList(p), kind, turn, most)
	checkAnswer(t, "NarrowAnswer "+name, a, code, want, wantCode)
	var refined impl.Answer
	var isRefined bool
	if wantCode == impl.ErrNone {
		refined, isRefined = refinedByParts(t, p, want, kind, turn, most)
	}
	first, second, is, code := impl.SolveBoth(narrowList(p), kind, turn, most)
	checkAnswer(t, "the first answer of SolveBoth "+name, first, code, want, wantCode)
	checkAnswer(t, "the second answer of SolveBoth "+name, second, code, refined, wantCode)
	if is != isRefined {
		t.Errorf("SolveBoth %s is refined: %v", name, is)
	}
	return is, wantCode
}

func TestNarrowAnswerAndSolveBoth(t *testing.T) {
	state := []complex128{-2816 - 7488i, 336 - 1152i, 48 - 36i, 1}
	for _, c := range []struct {
		p         []complex128
		most      int64
		isRefined bool
		code      int64
	}{
		{realList(2, 0, 1), 60, true, impl.ErrNone},
		{realList(2, 0, 1), 0, true, impl.ErrNone},
		{realList(2, 0, 1), 1, true, impl.ErrNone},
		{realList(2, 0, 1), impl.MaxSteps, true, impl.ErrNone},
		{realList(3, 1), 0, true, impl.ErrNone},
		{realList(3, 1), impl.MaxSteps, true, impl.ErrNone},
		// The one disc of degree 1 has no room around the root.
		{[]complex128{-0.1, 0.3i}, 7, false, impl.ErrNone},
		{ones(13), 100, true, impl.ErrNone},
		// Points that can't be made narrow, runs that fail, coefficients that are not moderate, and points
		// beyond 2^30, which come in this order.
		{realList(-3e38, 1), 10, false, impl.ErrLimit},
		{realList(-3e38, 1), 0, false, impl.ErrLimit},
		{realList(1, -1e-39), 0, false, impl.ErrLimit},
		{realList(1, 1e-39), 0, false, impl.ErrState},
		{realList(3e38, 1), 10, false, impl.ErrState},
		{realList(0x1p31, 1), 10, false, impl.ErrState},
		{realList(0x1p-61, 1), 10, false, impl.ErrState},
		{realList(1e20, 0, 1e20, 1), 0, false, impl.ErrState},
		{realList(0x1p30, 0x1p-60), 10, false, impl.ErrLimit},
		{realList(0x1p30, 0x1p-1), 1, false, impl.ErrLimit},
		{realList(0x1p30, -1), 1, true, impl.ErrNone},
		{state, 200, true, impl.ErrNone},
	} {
		p := narrowedList(c.p)
		for _, kind := range bothKinds {
			for _, turn := range bothTurns {
				isRefined, code := checkSolved(t, p, kind, turn, c.most)
				if kind == impl.KindEhrlich && turn && (isRefined != c.isRefined || code != c.code) {
					t.Errorf("%v with %d steps is refined: %v, %d", p, c.most, isRefined, code)
				}
			}
		}
	}
	checkSolved(t, narrowedList(realList(1e20, 0, 1e20, 1)), impl.KindWeierstrass, true, 1)
	if _, code := checkSolved(t, state, impl.KindEhrlich, false, 200); code != impl.ErrState {
		t.Errorf("the run at once of %v has the code %d", state, code)
	}
}

// anySolved gives the coefficients of a narrow polynomial: most have whole roots.
func anySolved(r *rand.Rand) []complex128 {
	switch r.IntN(8) {
	case 0:
		return narrowedList(append(wholeNumbers(r, 1+r.IntN(12)), []complex128{1, -2i, 0x1p-40, 0x1p-61}[r.IntN(4)]))
	case 1:
		p, _ := narrowWidth.anyTogether(r)
		return p
	case 2:
		return narrowedList(append(spreadNumbers(r, 1+r.IntN(2), 0, 29), spreadNumbers(r, 1, -36, 0)...))
	case 3:
		p, _ := rootsByParts(spreadNumbers(r, 1+r.IntN(3), -3, 3))
		return narrowedList(p)
	case 4:
		p, _ := realRoots(r, 1+r.IntN(8))
		return p
	default:
		return manyRoots(r, 1+r.IntN(8))
	}
}

func TestSolutionsOfAnyPolynomials(t *testing.T) {
	r := newRandom(511)
	refined, stay, codes := 0, 0, map[int64]int{}
	for range 700 {
		isRefined, code := checkSolved(t, anySolved(r), int64(r.IntN(2)), r.IntN(2) == 0, int64(r.IntN(100)))
		codes[code]++
		if isRefined {
			refined++
		} else if code == impl.ErrNone {
			stay++
		}
		if t.Failed() {
			return
		}
	}
	if refined < 300 || stay < 30 || codes[impl.ErrState] < 10 || codes[impl.ErrLimit] < 20 {
		t.Errorf("%d are refined, %d stay, and the codes are %v", refined, stay, codes)
	}
}

func checkDeflated(t *testing.T, p []complex128) int64 {
	t.Helper()
	var want impl.Answer
	roots, wantCode := impl.RootsByDeflation(p)
	switch {
	case wantCode != impl.ErrNone:
	case slices.ContainsFunc(p, func(z complex128) bool { return !impl.IsModerate(z) }):
		wantCode = impl.ErrState
	default:
		want, wantCode = answerByParts(t, p, roots)
	}
	a, code := impl.AnswerByDeflation(p)
	checkAnswer(t, fmt.Sprintf("AnswerByDeflation(%v)", p), a, code, want, wantCode)
	return wantCode
}

func TestAnswerByDeflation(t *testing.T) {
	const above = 0x1p-30 + 0x1p-40
	twelve := append(make([]complex128, 12), 1)
	for _, c := range []struct {
		p    []complex128
		want []complex128
		code int64
	}{
		{realList(-1, 0, 1), realList(-1, 1), impl.ErrNone},
		{realList(-5, 1), realList(5), impl.ErrNone},
		{realList(4, 0, 1), []complex128{2i, -2i}, impl.ErrNone},
		{realList(1, -2, 1), realList(1, 1-above), impl.ErrNone},
		{realList(0, 0, 0, 3), realList(0, 0x1p-30, 0x1p-29), impl.ErrNone},
		{twelve, nil, impl.ErrNone},
		// Deflation fails, also for coefficients that are not moderate.
		{realList(1, 0, 0, 1), nil, impl.ErrState},
		{realList(0x1p-218, -0x1p342, -0x1p474), nil, impl.ErrLimit},
		{realList(-0x1p135, 0, 1), nil, impl.ErrNotFound},
		{realList(0, -0x1p135, 0, 1), nil, impl.ErrNotFound},
		{realList(-0x1p533, 0x1p-987), nil, impl.ErrLimit},
		// Coefficients that are not moderate, and roots beyond 2^30, also both.
		{realList(-0x1p31, 1), nil, impl.ErrState},
		{realList(0x1p-61, 1), nil, impl.ErrState},
		{realList(1, 1e-30), nil, impl.ErrState},
		{realList(-1, 0x1p-31), nil, impl.ErrLimit},
		{realList(-1, 0x1p-30), realList(0x1p30), impl.ErrNone},
		{[]complex128{1i, 0x1p-60}, nil, impl.ErrLimit},
		{realList(-0x1p30, 0, 0x1p-32), nil, impl.ErrLimit},
	} {
		code := checkDeflated(t, c.p)
		a, _ := impl.AnswerByDeflation(c.p)
		if code != c.code || c.want != nil && !slices.EqualFunc(a.Points, c.want, sameWide) {
			t.Errorf("AnswerByDeflation(%v) has the points %v, %d, want %v, %d", c.p, a.Points, code, c.want, c.code)
		}
	}
}

func TestAnswersByDeflationOfAnyPolynomials(t *testing.T) {
	r := newRandom(512)
	codes := map[int64]int{}
	for range 500 {
		p := manyRoots(r, 1+r.IntN(12))
		switch r.IntN(5) {
		case 0:
			p = sparseWholes(r)
		case 1:
			p, _ = anyWalked(r)
		case 2:
			p = moderatePolynomial(r, 1+r.IntN(5))
		}
		codes[checkDeflated(t, p)]++
		if t.Failed() {
			return
		}
	}
	if codes[impl.ErrNone] < 200 || codes[impl.ErrState] < 30 || codes[impl.ErrLimit] < 20 {
		t.Errorf("the codes are %v", codes)
	}
}

func checkClusters(t *testing.T, list []complex128, r float64, want [][]int64, wantCode int64) {
	t.Helper()
	if got, code := impl.ClustersOf(list, r); !sameGroups(got, want) || code != wantCode {
		t.Errorf("ClustersOf(%v, %g) = %v, %d, want %v, %d", list, r, got, code, want, wantCode)
	}
}

func TestClustersOf(t *testing.T) {
	for _, c := range []struct {
		list []complex128
		r    float64
		want [][]int64
	}{
		{realList(0, 3, 0.5), 1, [][]int64{{0, 2}, {1}}},
		{nil, 1, nil},
		{nil, 0, nil},
		{[]complex128{}, 1e300, nil},
		{realList(7), 0, [][]int64{{0}}},
		// Ways over several numbers, in any order of indices.
		{realList(0, 1, 2, 3), 1, [][]int64{{0, 1, 2, 3}}},
		{realList(0, 3, 1, 2), 1, [][]int64{{0, 1, 2, 3}}},
		{realList(3, 0, 2, 1), 1, [][]int64{{0, 1, 2, 3}}},
		{realList(9, 0, 8, 1, 10, 2), 1, [][]int64{{0, 2, 4}, {1, 3, 5}}},
		{realList(5, 9, 4, 8, 3, 7, 0), 1, [][]int64{{0, 2, 4}, {1, 3, 5}, {6}}},
		// Sizes are sums of both parts.
		{[]complex128{0, 1 + 1i, 3}, 2, [][]int64{{0, 1}, {2}}},
		{[]complex128{0, 1 + 1i, 3}, 3, [][]int64{{0, 1, 2}}},
		{[]complex128{0, 1 - 1i}, 1.5, [][]int64{{0}, {1}}},
		// Of exactly r, and of the next greater float.
		{realList(1, 3.5), 2.5, [][]int64{{0, 1}}},
		{realList(1, 3.5), math.Nextafter(2.5, 0), [][]int64{{0}, {1}}},
		{[]complex128{0, complex(0, math.Nextafter(2, 3))}, 2, [][]int64{{0}, {1}}},
		{[]complex128{0, 2i}, 2, [][]int64{{0, 1}}},
		{realList(0, tiny), tiny, [][]int64{{0, 1}}},
		{realList(0, 2*tiny), tiny, [][]int64{{0}, {1}}},
		// Differences are rounded.
		{realList(1, 1e-20), 1, [][]int64{{0, 1}}},
		{realList(1, -1e-20), 1, [][]int64{{0, 1}}},
		{realList(1e16, 1), 1e16, [][]int64{{0, 1}}},
		// r of 0 with both signs, and equal numbers.
		{realList(1, 2, 1, 2, 3), 0, [][]int64{{0, 2}, {1, 3}, {4}}},
		{realList(1, 2, 1, 2, 3), negative, [][]int64{{0, 2}, {1, 3}, {4}}},
		{append([]complex128{0}, minusZeros...), 0, [][]int64{{0, 1, 2, 3}}},
		{realList(0, tiny, 0), 0, [][]int64{{0, 2}, {1}}},
		// Differences and sizes that are not finite.
		{realList(huge, -huge), huge, [][]int64{{0}, {1}}},
		{realList(huge, 0, -huge), huge, [][]int64{{0, 1, 2}}},
		{[]complex128{0, complex(huge, huge)}, huge, [][]int64{{0}, {1}}},
		{[]complex128{0, complex(huge, huge), complex(huge, 0)}, huge, [][]int64{{0, 1, 2}}},
		{[]complex128{complex(huge, huge), complex(-huge, -huge), complex(huge, huge)}, huge, [][]int64{{0, 2}, {1}}},
	} {
		checkClusters(t, c.list, c.r, c.want, impl.ErrNone)
	}
	var line, all []int64
	var numbers []complex128
	for n := range int64(100) {
		line, all = append(line, n*37%100), append(all, n)
		numbers = append(numbers, complex(float64(line[n]), 0))
	}
	checkClusters(t, numbers, 1, [][]int64{all}, impl.ErrNone)
	checkClusters(t, slices.Repeat([]complex128{3 - 1i}, 100), 0, [][]int64{all}, impl.ErrNone)
	if got, code := impl.ClustersOf(numbers, 0.5); len(got) != 100 || code != impl.ErrNone {
		t.Errorf("ClustersOf hundred different numbers = %v, %d", got, code)
	}
}

func TestClustersOfAnyNumbers(t *testing.T) {
	r := newRandom(513)
	several, single := 0, 0
	for range 1500 {
		list := append(anyNumbers(r, r.IntN(10)), wholeNumbers(r, r.IntN(12))...)
		switch r.IntN(4) {
		case 0:
			list = spreadNumbers(r, r.IntN(25), -3, 2+r.IntN(4))
		case 1:
			list = spreadNumbers(r, r.IntN(12), 1015, 1024)
		}
		bound := math.Abs(anyFloat(r))
		if len(list) > 1 && r.IntN(2) == 0 {
			if size, code := impl.SizeOf(list[0] - list[1]); code == impl.ErrNone {
				bound = []float64{size, math.Nextafter(size, 0), size / 4}[r.IntN(3)]
			}
		}
		want := clustersByWays(list, bound)
		checkClusters(t, list, bound, want, impl.ErrNone)
		if len(want) > 1 && len(want) < len(list) {
			several++
		} else if len(want) == 1 && len(list) > 2 {
			single++
		}
		if t.Failed() {
			return
		}
	}
	if several < 200 || single < 100 {
		t.Errorf("just %d lists have several clusters, and %d a single one", several, single)
	}
}

func checkSensitivity(t *testing.T, p []complex128, z complex128, want float64, wantCode int64) {
	t.Helper()
	got, code := impl.SensitivityOf(p, z)
	checkFloat(t, fmt.Sprintf("SensitivityOf(%v, %v)", p, z), got, code, want, wantCode)
}

func TestSensitivityOf(t *testing.T) {
	const top = 0x1p1023
	for _, c := range []struct {
		p    []complex128
		z    complex128
		want float64
		code int64
	}{
		{realList(-1, 0, 1), 1, 1, impl.ErrNone},
		{realList(-1, 0, 1), -1, 1, impl.ErrNone},
		{realList(-1, 0, 1), 1i, 1, impl.ErrNone},
		{realList(-1, 0, 1), 1 + 1i, 1.25, impl.ErrNone},
		{[]complex128{3 - 4i, -2}, 5i - 1, 9.5, impl.ErrNone},
		{realList(2, -3, 1), 2, 12, impl.ErrNone},
		{realList(0, 1), 0, 0, impl.ErrNone},
		{realList(0, 0, 2, 1), 0.5, quotientOf(0.625, 2.75), impl.ErrNone},
		// Numbers and coefficients that are not moderate.
		{realList(-1, 0, 1), 0x1p40, 0x1p39 + 0x1p-41, impl.ErrNone},
		{realList(-1, 0, 1), 0x1p-70, 0x1p69, impl.ErrNone},
		{realList(0x1p100, 0x1p-100), 1e-5, 0x1p200, impl.ErrNone},
		{realList(top, 1), 0, top, impl.ErrNone},
		// A slope of 0, also by rounding.
		{realList(-1, 0, 1), 0, 0, impl.ErrState},
		{realList(-1, 0, 1), complex(negative, 0), 0, impl.ErrState},
		{realList(1, -2, 1), 1, 0, impl.ErrState},
		{realList(0, 0, tiny), 0.1, 0, impl.ErrState},
		{realList(1, 0, 0x1p-600), 0x1p-600, 0, impl.ErrState},
		// Numbers on the way that are not finite: in the slope or its size, in the sizes, or in the quotient.
		{realList(0, 0, top), 1, 0, impl.ErrLimit},
		{realList(0, top, 0x1p1022), 1, 0, impl.ErrLimit},
		{[]complex128{0, complex(top, top)}, 0, 0, impl.ErrLimit},
		{[]complex128{complex(top, top), 1}, 0, 0, impl.ErrLimit},
		{realList(0, 1), complex(top, -top), 0, impl.ErrLimit},
		{realList(top, top), 1, 0, impl.ErrLimit},
		{realList(1, 0x1p1000), 0x1p24, 0, impl.ErrLimit},
		{realList(1, 0x1p-1074), 0, 0, impl.ErrLimit},
		{realList(1, 0x1p-1023), 0, 0x1p1023, impl.ErrNone},
		{realList(top, 0.25), 0, 0, impl.ErrLimit},
		// Before a slope of 0.
		{[]complex128{complex(top, top), 0, 1}, 0, 0, impl.ErrLimit},
		{[]complex128{complex(huge, -huge), 1, 1}, -0.5, 0, impl.ErrLimit},
		{realList(1, -0x1p1001, 0x1p1000), 1, 0, impl.ErrState},
		{realList(1, 0x1p1000, -0x1p998, 0, 0x1p1021), 0, 0x1p-1000, impl.ErrNone},
		{realList(1, 0x1p1000, -0x1p998, 0, 0x1p1022), 0, 0, impl.ErrLimit},
	} {
		checkSensitivity(t, c.p, c.z, c.want, c.code)
	}
}

func TestSensitivitiesInOrder(t *testing.T) {
	r := newRandom(514)
	codes := map[int64]int{}
	for range 4000 {
		p, z := anyPointOf(r)
		switch r.IntN(5) {
		case 0:
			p, z = sparseWholes(r), []complex128{0, 1, wholeNumbers(r, 1)[0]}[r.IntN(3)]
		case 1:
			p, z = spreadNumbers(r, 2+r.IntN(12), 990, 1024), spreadNumbers(r, 1, -20, 4)[0]
		case 2:
			p, z = spreadNumbers(r, 2+r.IntN(12), -300, 300), spreadNumbers(r, 1, -60, 60)[0]
		}
		want, code := inOrder{}.sensitivityCode(p, z)
		checkSensitivity(t, p, z, want, code)
		codes[code]++
		if t.Failed() {
			return
		}
	}
	if codes[impl.ErrNone] < 2000 || codes[impl.ErrState] < 100 || codes[impl.ErrLimit] < 200 {
		t.Errorf("the codes are %v", codes)
	}
}
