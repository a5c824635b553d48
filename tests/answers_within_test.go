package tests

import (
	"fmt"
	"math/rand/v2"
	"slices"
	"testing"

	"loop.example/g01156/impl"
)

// grouped are discs with their groups, without Points.
func grouped(list ...impl.Disc) impl.Answer {
	return impl.Answer{Discs: list, Groups: groupsByWays(list)}
}

func checkWithin(t *testing.T, b, a impl.Answer, want bool) {
	t.Helper()
	if is, code := impl.IsWithin(b, a); is != want || code != impl.ErrNone {
		t.Errorf("IsWithin(%s, %s) = %v, %d, want %v", answerText(b), answerText(a), is, code, want)
	}
}

func TestIsWithin(t *testing.T) {
	two := grouped(disc(0, "1p0"), disc(10, "1p0"))
	three := grouped(disc(0, "1p0"), disc(1, "1p0"), disc(10, "1p0"))
	for _, c := range []struct {
		b, a impl.Answer
		want bool
	}{
		{grouped(discs("0p0", 0, 10)...), two, true},
		{grouped(discs("0p0", 10, 0)...), two, true},
		{grouped(discs("1p-1", 0.5, 9.5i+0.5)...), two, false},
		{grouped(discs("1p-1", 0.5, 10-0.5i)...), two, true},
		// On the edge, and beyond it by one multiple, or by the least difference of Centres.
		{grouped(disc(0.5, "2^49+1p-50"), disc(10, "0p0")), two, false},
		{grouped(disc(0.5+0x1p-60i, "1p-1"), disc(10, "0p0")), two, false},
		{grouped(disc(0, "2^50+1p-50"), disc(10, "0p0")), two, false},
		{grouped(disc(1+0x1p-60i, "0p0"), disc(10, "0p0")), two, false},
		{grouped(disc(1, "0p0"), disc(11, "0p0")), two, true},
		// Inside some disc, but with other numbers in the groups.
		{grouped(discs("0p0", 0, 0.5)...), two, false},
		{grouped(discs("0p0", 10, 10.5)...), two, false},
		{grouped(discs("0p0", 10, 10)...), two, false},
		{grouped(discs("0p0", 0, 10, 9.5)...), three, false},
		{grouped(discs("0p0", 10, 10, 10)...), three, false},
		{grouped(discs("0p0", 0, 0.5, -0.5)...), three, false},
		// As many in each group, in other orders, all in one of its discs, or in other groups of their own.
		{grouped(discs("0p0", 10, 0, 1)...), three, true},
		{grouped(discs("0p0", 2, 10, 2)...), three, true},
		{grouped(discs("1p-2", -0.5, 10, -0.5)...), three, true},
		{grouped(discs("1p-2", 1.75, 10, -0.5)...), three, true},
		// Inside no disc, but inside of what two discs have together, or the whole group spans.
		{grouped(disc(0.5, "1p0"), disc(0, "0p0"), disc(10, "0p0")), three, false},
		{grouped(disc(0.5, "1p-1"), disc(0, "0p0"), disc(10, "0p0")), three, true},
		{grouped(discs("0p0", 0.5+0.9i, 0, 10)...), three, false},
		// Inside other discs alone.
		{grouped(discs("0p0", 5, 10)...), two, false},
		{grouped(discs("0p0", 0, 5)...), two, false},
		{grouped(discs("0p0", 0, 1, 5)...), three, false},
		// Other numbers of discs.
		{grouped(discs("0p0", 0)...), two, false},
		{grouped(discs("0p0", 0, 10, 5)...), two, false},
		{grouped(discs("0p0", 0, 10, 10)...), two, false},
		{grouped(discs("0p0", 0, 10)...), three, false},
		{grouped(discs("0p0", 0)...), grouped(discs("1p0", 0, 1)...), false},
		{grouped(discs("0p0", 0, 1)...), grouped(disc(0, "1p1")), false},
		// Within themselves, and not the other way round.
		{two, two, true},
		{three, three, true},
		{two, grouped(discs("0p0", 0, 10)...), false},
		{grouped(disc(0, greatestRadius)), grouped(disc(0, greatestRadius)), true},
		{grouped(disc(1, "0p0")), grouped(disc(0, greatestRadius)), true},
		{grouped(disc(0, greatestRadius)), grouped(disc(1, greatestRadius)), false},
		{grouped(slices.Repeat(discs("1p0", 0), 12)...), grouped(slices.Repeat(discs("1p0", 0), 12)...), true},
		{grouped(slices.Repeat(discs("1p0", 0), 12)...), grouped(slices.Repeat(discs("1p0", 0), 11)...), false},
		{grouped(slices.Repeat(discs("1p0", 0), 11)...), grouped(slices.Repeat(discs("1p0", 0), 12)...), false},
	} {
		checkWithin(t, c.b, c.a, c.want)
		if withinByParts(c.b, c.a) != c.want {
			t.Errorf("by parts, %s is within %s: %v", answerText(c.b), answerText(c.a), !c.want)
		}
	}
}

// Points are not looked at.
func TestIsWithinNeedsNoPoints(t *testing.T) {
	a, b := grouped(discs("1p0", 0, 10)...), grouped(discs("1p-1", 10, 0.5)...)
	for _, points := range [][]complex128{nil, {1}, {1, 1, 1}, {complex(nan, inf)}, {0, 10}} {
		a.Points, b.Points = points, slices.Clone(points)
		checkWithin(t, b, a, true)
		b.Points = nil
		checkWithin(t, b, a, true)
		checkWithin(t, a, b, false)
	}
}

// besideDiscs are inside of discs or nearly so, in another order.
func besideDiscs(r *rand.Rand, list []impl.Disc) []impl.Disc {
	var others []impl.Disc
	for _, k := range r.Perm(len(list)) {
		d := list[k]
		switch r.IntN(5) {
		case 0:
			d.Radius = impl.Dyadic{}
		case 1:
			if x, code := impl.FloatOf(d.Radius); code == impl.ErrNone && x < 0x1p20 {
				z := moderateNear(d.Centre + turnedBy(r, x*r.Float64()))
				length := besideLength(r, squareBetween(z, d.Centre), number("0p0"))
				d = impl.Disc{Centre: z, Radius: dyadicOf(minus(binaryOf(d.Radius), binaryOf(length)))}
			}
		case 2:
			if r.IntN(8) == 0 {
				d = list[r.IntN(len(list))]
			}
		}
		if !impl.IsDisc(d) {
			d = list[k]
		}
		others = append(others, d)
	}
	return others
}

func TestIsWithinOfAnyDiscs(t *testing.T) {
	within, not := 0, 0
	forDiscLists(t, 508, func(r *rand.Rand, list []impl.Disc) {
		if r.IntN(2) == 0 {
			list = discs("1p-1", differentRoots(r, len(list))...)
			for i := range list {
				list[i].Radius = nextRadius(list[i].Radius, -r.Int64N(2)*(1<<47))
			}
		}
		a, b := grouped(list...), grouped(besideDiscs(r, list)...)
		want := withinByParts(b, a)
		checkWithin(t, b, a, want)
		checkWithin(t, a, b, withinByParts(a, b))
		checkWithin(t, a, a, true)
		if want {
			within++
		} else {
			not++
		}
	})
	if within < 300 || not < 300 {
		t.Errorf("%d are within others, and %d are not", within, not)
	}
}

// checkRefined compares a refined answer with the one that is wanted, or with a itself.
func checkRefined(t *testing.T, p []complex128, a impl.Answer, kind int64, turn bool, most int64, want impl.Answer, isRefined bool) {
	t.Helper()
	got, is, code := impl.RefineAnswer(p, a, kind, turn, most)
	name := fmt.Sprintf("RefineAnswer(%v, %s, %d, %v, %d)", p, answerText(a), kind, turn, most)
	checkAnswer(t, name, got, code, want, impl.ErrNone)
	if is != isRefined {
		t.Errorf("%s is refined: %v", name, is)
	}
}

func TestRefineAnswer(t *testing.T) {
	for _, c := range []struct {
		p, list []complex128
		kind    int64
		turn    bool
		most    int64
		want    []complex128
	}{
		// Without a step it is the same answer, and refined.
		{realList(2, -3, 1), realList(1, 3), impl.KindEhrlich, true, 0, realList(1, 3)},
		{realList(2, -3, 1), realList(1, 3), impl.KindWeierstrass, false, 0, realList(1, 3)},
		{realList(2, -3, 1), realList(1, 2), impl.KindWeierstrass, false, 200, realList(1, 2)},
		// To the roots.
		{realList(-3, 1), realList(5), impl.KindWeierstrass, true, 1, realList(3)},
		{realList(-3, 1), realList(5), impl.KindEhrlich, false, impl.MaxSteps, realList(3)},
		{realList(2, -3, 1), realList(1, 3), impl.KindEhrlich, false, 1, realList(1, 2)},
		{realList(2, -3, 1), realList(1, 3), impl.KindWeierstrass, true, impl.MaxSteps, realList(1, 2)},
		{realList(2, -3, 1), realList(1, 1), impl.KindEhrlich, true, impl.MaxSteps, realList(1, 2)},
		// It stays: a run that fails at a slope of 0, or with values that are too large.
		{realList(1, 0, 1), realList(0, 2), impl.KindEhrlich, false, 1, nil},
		{realList(1, 0, 1), realList(2, 0), impl.KindEhrlich, true, impl.MaxSteps, nil},
		{realList(0x1p30, 1, 0x1p-60), realList(0, 0x1p30), impl.KindWeierstrass, false, impl.MaxSteps, nil},
		// Points beyond 2^30.
		{realList(1, 0x1p-40), realList(0), impl.KindWeierstrass, false, 1, nil},
		{realList(1, 0x1p-40), realList(0), impl.KindEhrlich, true, 7, nil},
		{realList(1, 0x1p-40), realList(0), impl.KindEhrlich, true, 0, realList(0)},
		// Discs that are not within.
		{realList(3, 2, 1), []complex128{-3 - 2i, 1 + 1i}, impl.KindWeierstrass, false, 1, nil},
		{realList(1, 3, 1), []complex128{-1 + 1i, -2 - 1i}, impl.KindWeierstrass, true, 1, nil},
		{[]complex128{-1 + 1i, 2, 3 + 1i, 1}, []complex128{-2, -3, 1i}, impl.KindEhrlich, false, 2, nil},
		{[]complex128{2i, 1 + 1i, 1 - 1i, 1}, []complex128{2, -3 + 1i, 1 + 1i}, impl.KindEhrlich, true, 3, nil},
	} {
		a, code := impl.AnswerOf(c.p, c.list)
		if code != impl.ErrNone {
			t.Fatalf("AnswerOf(%v, %v): code %d", c.p, c.list, code)
		}
		want := a
		if c.want != nil {
			want, _ = answerByParts(t, c.p, c.want)
		}
		checkRefined(t, c.p, a, c.kind, c.turn, c.most, want, c.want != nil)
	}
}

// Both kinds of step, at once and in turn, with the least and the greatest numbers of steps.
func TestRefineAnswerWithAllKindsOfSteps(t *testing.T) {
	for _, c := range answeredCases() {
		a, _ := impl.AnswerOf(c.p, c.list)
		for _, kind := range bothKinds {
			for _, turn := range bothTurns {
				for _, most := range []int64{0, 1, impl.MaxSteps - 1, impl.MaxSteps} {
					want, isRefined := refinedByParts(t, c.p, a, kind, turn, most)
					checkRefined(t, c.p, a, kind, turn, most, want, isRefined)
					if most == 0 && (!isRefined || !sameAnswer(want, a)) {
						t.Errorf("without a step, %s is refined: %v", answerText(a), isRefined)
					}
				}
			}
		}
	}
}

// anyRefined gives answers that are refined, and such that stay for each reason.
func anyRefined(r *rand.Rand) ([]complex128, []complex128) {
	degree := 2 + r.IntN(3)
	switch r.IntN(4) {
	case 0:
		return append(wholeNumbers(r, degree), 1), wholeNumbers(r, degree)
	case 1:
		p, roots := wholeRoots(r, 1+r.IntN(6))
		return p, besideNumbers(r, roots)
	default:
		return anyAnswered(r)
	}
}

func TestRefinementsOfAnyAnswers(t *testing.T) {
	met := map[string]int{}
	forAnswers(t, 509, 1200, anyRefined, func(r *rand.Rand, p []complex128, a impl.Answer) {
		kind, turn, most := int64(r.IntN(2)), r.IntN(2) == 0, int64(r.IntN(12))
		if r.IntN(10) == 0 {
			most = int64(r.IntN(impl.MaxSteps + 1))
		}
		want, isRefined := refinedByParts(t, p, a, kind, turn, most)
		checkRefined(t, p, a, kind, turn, most, want, isRefined)
		run, code := impl.RunTogether(p, a.Points, kind, turn, 0, most)
		_, answerCode := impl.AnswerOf(p, run.Points)
		switch {
		case code != impl.ErrNone:
			met["failed"]++
		case answerCode != impl.ErrNone:
			met["not there"]++
		case !isRefined:
			met["not within"]++
		case sameAnswer(want, a):
			met["the same"]++
		default:
			met["refined"]++
		}
	})
	if met["failed"] < 20 || met["not there"] < 20 || met["not within"] < 50 || met["the same"] < 50 || met["refined"] < 300 {
		t.Errorf("the refinements are %v", met)
	}
}

// Refined again and again, with few steps each time, and all at once.
func TestRefinementsOneAfterTheOther(t *testing.T) {
	r := newRandom(510)
	for range 60 {
		p, roots := wholeRoots(r, 1+r.IntN(6))
		first, code := impl.AnswerOf(p, besideNumbers(r, roots))
		if code != impl.ErrNone {
			t.Fatalf("AnswerOf(%v): code %d", p, code)
		}
		a := first
		for range 6 {
			next, isRefined, code := impl.RefineAnswer(p, a, impl.KindEhrlich, true, 1)
			want, wantRefined := refinedByParts(t, p, a, impl.KindEhrlich, true, 1)
			if !sameAnswer(next, want) || isRefined != wantRefined || code != impl.ErrNone || !impl.IsAnswer(p, next) {
				t.Fatalf("RefineAnswer(%v, %s) = %s, %v, %d", p, answerText(a), answerText(next), isRefined, code)
			}
			a = next
			checkWithin(t, a, first, true)
		}
	}
}
