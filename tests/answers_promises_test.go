package tests

import (
	"fmt"
	"math/rand/v2"
	"slices"
	"testing"

	"loop.example/g01156/impl"
)

// checkOwnDiscs checks that an answer has the discs of its Points and their groups, and multiplicities
// that add up to the degree.
func checkOwnDiscs(t *testing.T, p []complex128, a impl.Answer) {
	t.Helper()
	found, code := impl.DiscsOf(p, a.Points)
	if !slices.EqualFunc(found, a.Discs, sameDisc) || code != impl.ErrNone {
		t.Fatalf("the discs of %s for %v are %v, %d", answerText(a), p, discTexts(found), code)
	}
	checkGroups(t, a.Discs, a.Groups)
	checkIsAnswer(t, "an answer", p, a, true)
	all := int64(0)
	for g := range a.Groups {
		n, code := impl.MultiplicityOf(p, a, int64(g))
		if n < 1 || code != impl.ErrNone {
			t.Fatalf("MultiplicityOf(%v, %s, %d) = %d, %d", p, answerText(a), g, n, code)
		}
		all += n
	}
	if all != int64(len(p)-1) {
		t.Fatalf("the multiplicities of %s add up to %d", answerText(a), all)
	}
}

func TestPromise10AnswersHaveTheDiscsOfTheirPoints(t *testing.T) {
	forAnswers(t, 521, 500, anyAnswered, func(_ *rand.Rand, p []complex128, a impl.Answer) {
		checkOwnDiscs(t, p, a)
	})
	r := newRandom(522)
	for range 200 {
		p := anySolved(r)
		narrow, wide, _, code := impl.SolveBoth(narrowList(p), int64(r.IntN(2)), r.IntN(2) == 0, int64(r.IntN(60)))
		if code == impl.ErrNone {
			checkOwnDiscs(t, p, narrow)
			checkOwnDiscs(t, p, wide)
		}
		if a, code := impl.AnswerByDeflation(p); code == impl.ErrNone {
			checkOwnDiscs(t, p, a)
		}
	}
}

// rootsIn are the roots in the discs of a group.
func rootsIn(a impl.Answer, g int64, roots []complex128) []complex128 {
	var found []complex128
	for _, z := range roots {
		if slices.ContainsFunc(a.Groups[g], func(i int64) bool { return isPointOf(a.Discs[i], z) }) {
			found = append(found, z)
		}
	}
	return found
}

// checkRealGroups checks the kinds and partners of groups by the known roots, and counts them.
func checkRealGroups(t *testing.T, p, roots []complex128, a impl.Answer, met map[string]int) {
	t.Helper()
	kinds, code := impl.KindsOfGroups(p, a)
	partners, partnersCode := impl.PartnersOf(p, a)
	if len(kinds) != len(a.Groups) || len(partners) != len(a.Groups) || code != impl.ErrNone || partnersCode != impl.ErrNone {
		t.Fatalf("the kinds of %s are %v, %d, and the partners %v, %d", answerText(a), kinds, code, partners, partnersCode)
	}
	for g, kind := range kinds {
		found := rootsIn(a, int64(g), roots)
		name := fmt.Sprintf("group %d with the roots %v of %v, %s,", g, found, p, answerText(a))
		met[fmt.Sprintf("kind %d", kind)]++
		isReal := func(z complex128) bool { return imag(z) == 0 }
		if kind == impl.GroupReal && (len(found) != 1 || !isReal(found[0])) || kind == impl.GroupNotReal && slices.ContainsFunc(found, isReal) {
			t.Errorf("%s has the kind %d", name, kind)
		}
		if kind == impl.GroupReal && partners[g] != int64(g) {
			t.Errorf("%s is real with the partner %d", name, partners[g])
		}
		if partners[g] < 0 {
			met["without"]++
			continue
		}
		others := rootsIn(a, partners[g], roots)
		for _, z := range found {
			if !slices.Contains(others, complex(real(z), -imag(z))) {
				t.Errorf("%s has the partner %d, with the roots %v", name, partners[g], others)
			}
		}
		checkMirroredMiddles(t, p, a, int64(g), partners[g])
	}
}

// checkMirroredMiddles checks that the middles of partners of one disc are as near as discs that touch.
func checkMirroredMiddles(t *testing.T, p []complex128, a impl.Answer, g, partner int64) {
	t.Helper()
	if len(a.Groups[g]) != 1 || len(a.Groups[partner]) != 1 {
		return
	}
	first, code := impl.MiddleOf(p, a, g)
	second, secondCode := impl.MiddleOf(p, a, partner)
	radii := plus(binaryOf(a.Discs[a.Groups[g][0]].Radius), binaryOf(a.Discs[a.Groups[partner][0]].Radius))
	if !isAsNear(complex(real(first), -imag(first)), second, radii) || code != impl.ErrNone || secondCode != impl.ErrNone {
		t.Errorf("the middles of the partners %d and %d of %s are %v and %v", g, partner, answerText(a), first, second)
	}
}

func TestPromise10KindsAndPartnersHoldForTheRoots(t *testing.T) {
	met := map[string]int{}
	r := newRandom(523)
	for range 200 {
		p, roots := realRoots(r, 1+r.IntN(impl.MaxDegree))
		for _, list := range [][]complex128{besidePairs(r, roots), besideNumbers(r, roots), moderates(r, len(roots))} {
			a, code := impl.AnswerOf(p, list)
			if code != impl.ErrNone {
				t.Fatalf("AnswerOf(%v, %v): code %d", p, list, code)
			}
			checkRealGroups(t, p, roots, a, met)
		}
		if a, code := impl.AnswerByDeflation(p); code == impl.ErrNone {
			checkRealGroups(t, p, roots, a, met)
		}
		if t.Failed() {
			return
		}
	}
	if met["kind 0"] < 200 || met["kind 1"] < 300 || met["kind 2"] < 300 || met["without"] < 1 {
		t.Errorf("just %v", met)
	}
}

// Kinds and partners are as told, and tell nothing of groups alone: partners of partners, and the same
// for polynomials whose roots are the opposite ones.
func TestPromise10KindsAndPartnersOfOpposites(t *testing.T) {
	forAnswers(t, 524, 400, anyRealAnswered, func(_ *rand.Rand, p []complex128, a impl.Answer) {
		kinds, _ := impl.KindsOfGroups(p, a)
		partners, _ := impl.PartnersOf(p, a)
		for g, partner := range partners {
			if partner >= 0 && partners[partner] >= 0 && partners[partner] != int64(g) {
				t.Errorf("the partners of %s are %v", answerText(a), partners)
			}
		}
		var opposite, points []complex128
		for n, z := range p {
			opposite = append(opposite, complex(real(z)*float64(1-n%2*2), 0))
		}
		for _, z := range a.Points {
			points = append(points, -z)
		}
		b, _ := impl.AnswerOf(opposite, points)
		checkKinds(t, opposite, b, kinds, partners, impl.ErrNone)
	})
}

func TestPromise10RefinedAnswersAreWithinTheOnesBefore(t *testing.T) {
	refined, stay := 0, 0
	forAnswers(t, 525, 600, anyRefined, func(r *rand.Rand, p []complex128, a impl.Answer) {
		b, isRefined, code := impl.RefineAnswer(p, a, int64(r.IntN(2)), r.IntN(2) == 0, int64(r.IntN(20)))
		if code != impl.ErrNone {
			t.Fatalf("RefineAnswer(%v, %s): code %d", p, answerText(a), code)
		}
		checkOwnDiscs(t, p, b)
		checkWithin(t, b, a, true)
		checkNeverLeave(t, b, a)
		if isRefined {
			refined++
		} else {
			stay++
			checkAnswer(t, "an answer that stays", b, code, a, impl.ErrNone)
		}
	})
	if refined < 300 || stay < 50 {
		t.Errorf("just %d are refined, and %d stay", refined, stay)
	}
}

// checkNeverLeave checks that each disc of b is inside one of a, and that as many are in each group.
func checkNeverLeave(t *testing.T, b, a impl.Answer) {
	t.Helper()
	counts, numbers := make([]int, len(a.Groups)), groupOf(a)
	for _, d := range b.Discs {
		i := slices.IndexFunc(a.Discs, func(e impl.Disc) bool {
			is, code := impl.IsInside(d, e)
			return is && isHeld(d, e) && code == impl.ErrNone
		})
		if i < 0 {
			t.Fatalf("%s leaves the discs of %s", discText(d), answerText(a))
		}
		counts[numbers[i]]++
	}
	for g, group := range a.Groups {
		if counts[g] != len(group) {
			t.Fatalf("%d discs of %s are in the group %v of %s", counts[g], answerText(b), group, answerText(a))
		}
	}
}

// checkRootsInAnswer checks that each root is in a disc of a group with at least as many discs as it is
// met, and that groups hold as many roots as they have discs.
func checkRootsInAnswer(t *testing.T, roots []complex128, a impl.Answer, met *rootCounts) {
	t.Helper()
	counts, code := impl.CountIn(a.Discs, roots)
	if code != impl.ErrNone {
		t.Fatalf("CountIn(%v): code %d", discTexts(a.Discs), code)
	}
	all := 0
	for g, group := range a.Groups {
		found := rootsIn(a, int64(g), roots)
		if len(found) != len(group) || counts[g] != int64(len(group)) {
			t.Fatalf("the group %v of %s has the roots %v of %v", group, answerText(a), found, roots)
		}
		all += len(found)
		met.groups++
		if len(group) > 1 && len(a.Groups) > 1 {
			met.joined++
		}
	}
	if all != len(roots) {
		t.Fatalf("%s holds %d of the roots %v", answerText(a), all, roots)
	}
}

func TestPromise15And17AnswersHoldTheirRoots(t *testing.T) {
	var made, narrow, wide, deflated rootCounts
	forWholeRoots(t, 526, 500, func(r *rand.Rand, p, roots []complex128) {
		a, code := impl.AnswerOf(p, besideNumbers(r, roots))
		if code != impl.ErrNone {
			t.Fatalf("AnswerOf(%v): code %d", p, code)
		}
		checkRootsInAnswer(t, roots, a, &made)
		first, second, _, code := impl.SolveBoth(narrowList(p), int64(r.IntN(2)), r.IntN(2) == 0, int64(r.IntN(100)))
		if code == impl.ErrNone && slices.EqualFunc(narrowedList(p), p, sameWide) {
			checkRootsInAnswer(t, roots, first, &narrow)
			checkRootsInAnswer(t, roots, second, &wide)
		}
		if a, code := impl.AnswerByDeflation(p); code == impl.ErrNone {
			checkRootsInAnswer(t, roots, a, &deflated)
		}
	})
	if made.groups < 1000 || made.joined < 200 || narrow.groups < 600 || wide.groups < narrow.groups || deflated.groups < 600 {
		t.Errorf("just %v, %v, %v and %v groups", made, narrow, wide, deflated)
	}
}

// A root that is met n times has a group of at least n discs, whose middle is near to it.
func TestPromise17MultipleRootsHaveMultiplicities(t *testing.T) {
	for n := int64(2); n <= 8; n++ {
		roots := append(slices.Repeat([]complex128{1 + 1i}, int(n)), 100, -100i)
		p, _ := impl.PolynomialOfRoots(roots)
		list := []complex128{100 + 0x1p-20, -100i}
		for k := range n {
			power, _ := impl.TurnedPower(k)
			list = append(list, 1+1i+power*0x1p-12)
		}
		a, code := impl.AnswerOf(p, list)
		if len(a.Groups) != 3 || code != impl.ErrNone {
			t.Fatalf("AnswerOf(%v, %v) = %s, %d", p, list, answerText(a), code)
		}
		var met rootCounts
		checkRootsInAnswer(t, roots, a, &met)
		for g, want := range []int64{1, 1, n} {
			got, code := impl.MultiplicityOf(p, a, int64(g))
			checkInteger(t, fmt.Sprintf("MultiplicityOf(%v, %s, %d)", p, answerText(a), g), got, code, want, impl.ErrNone)
		}
		if middle, code := impl.MiddleOf(p, a, 2); sizeOf(middle-1-1i) > 0x1p-11 || code != impl.ErrNone {
			t.Errorf("the middle of %s is %v, %d", answerText(a), middle, code)
		}
	}
}

func TestPromise18WideDiscsNeverLeaveNarrowOnes(t *testing.T) {
	r := newRandom(527)
	refined, several, smaller := 0, 0, 0
	for range 600 {
		p := anySolved(r)
		kind, turn, most := int64(r.IntN(2)), r.IntN(2) == 0, int64(r.IntN(impl.MaxSteps+1))
		narrow, wide, isRefined, code := impl.SolveBoth(narrowList(p), kind, turn, most)
		if code != impl.ErrNone {
			continue
		}
		checkNeverLeave(t, wide, narrow)
		checkWithin(t, wide, narrow, true)
		if !isRefined {
			checkAnswer(t, "an answer that stays", wide, code, narrow, impl.ErrNone)
			continue
		}
		refined++
		if len(narrow.Groups) > 1 {
			several++
		}
		before, _ := impl.GreatestRadius(narrow.Discs)
		after, _ := impl.GreatestRadius(wide.Discs)
		if compare(binaryOf(after), times(binaryOf(before), number("1p-10"))) < 0 {
			smaller++
		}
	}
	if refined < 300 || several < 200 || smaller < 150 {
		t.Errorf("just %d are refined, %d of several groups, and %d to much smaller discs", refined, several, smaller)
	}
}

// An answer of single precision is refined by runs in double precision, one after the other.
func TestPromise18DiscsOfDoublePrecisionStayInside(t *testing.T) {
	forWholeRoots(t, 528, 150, func(r *rand.Rand, p, roots []complex128) {
		if !slices.EqualFunc(narrowedList(p), p, sameWide) {
			return
		}
		first, code := impl.NarrowAnswer(narrowList(p), impl.KindEhrlich, true, int64(r.IntN(20)))
		if code != impl.ErrNone {
			return
		}
		a := first
		for range 4 {
			next, _, code := impl.RefineAnswer(p, a, int64(r.IntN(2)), r.IntN(2) == 0, int64(r.IntN(4)))
			if code != impl.ErrNone {
				t.Fatalf("RefineAnswer(%v, %s): code %d", p, answerText(a), code)
			}
			checkNeverLeave(t, next, a)
			checkNeverLeave(t, next, first)
			var met rootCounts
			checkRootsInAnswer(t, roots, next, &met)
			a = next
		}
	})
}
