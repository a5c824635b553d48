package tests

import (
	"fmt"
	"math/rand/v2"
	"slices"
	"testing"

	"loop.example/g01156/impl"
)

// notAnswers are changed from an answer so that they are none of its polynomial.
func notAnswers(a impl.Answer) map[string]impl.Answer {
	all := map[string]impl.Answer{"nothing": {}}
	change := func(why string, how func(b *impl.Answer)) {
		b := copyOf(a)
		how(&b)
		all[why] = b
	}
	for i, z := range a.Points {
		for _, other := range append(notPoints(z), a.Points[(i+1)%len(a.Points)]) {
			if !sameWide(other, z) {
				change(fmt.Sprintf("point %d is %v", i, other), func(b *impl.Answer) { b.Points[i] = other })
				change(fmt.Sprintf("centre %d is %v", i, other), func(b *impl.Answer) { b.Discs[i].Centre = other })
			}
		}
		for _, radius := range notRadii(a.Discs[i].Radius) {
			change(fmt.Sprintf("radius %d is %v", i, radius), func(b *impl.Answer) { b.Discs[i].Radius = radius })
		}
		change(fmt.Sprintf("no point %d", i), func(b *impl.Answer) { b.Points = slices.Delete(b.Points, i, i+1) })
		change(fmt.Sprintf("no disc %d", i), func(b *impl.Answer) { b.Discs = slices.Delete(b.Discs, i, i+1) })
		change(fmt.Sprintf("one more point %d", i), func(b *impl.Answer) { b.Points = slices.Insert(b.Points, i, 77-1i) })
		change(fmt.Sprintf("one more disc %d", i), func(b *impl.Answer) { b.Discs = slices.Insert(b.Discs, i, disc(z, "0p0")) })
		change(fmt.Sprintf("point %d twice", i), func(b *impl.Answer) { b.Points = append(b.Points, z) })
		change(fmt.Sprintf("disc %d twice", i), func(b *impl.Answer) { b.Discs = append(b.Discs, b.Discs[i]) })
		if i > 0 {
			change(fmt.Sprintf("points %d in order", i), func(b *impl.Answer) { b.Points[i-1], b.Points[i] = b.Points[i], b.Points[i-1] })
			change(fmt.Sprintf("discs %d in order", i), func(b *impl.Answer) { b.Discs[i-1], b.Discs[i] = b.Discs[i], b.Discs[i-1] })
		}
	}
	for why, groups := range notGroups(a.Groups, int64(len(a.Points))) {
		change(why, func(b *impl.Answer) { b.Groups = groups })
	}
	change("no points", func(b *impl.Answer) { b.Points = nil })
	change("no discs", func(b *impl.Answer) { b.Discs = nil })
	change("thirteen of all", func(b *impl.Answer) {
		b.Points, b.Discs = slices.Repeat(b.Points, 13)[:13], slices.Repeat(b.Discs, 13)[:13]
	})
	return all
}

// notPoints are other numbers than z, also such that are not moderate.
func notPoints(z complex128) []complex128 {
	x, y := real(z), imag(z)
	others := []complex128{
		complex(x+0x1p-50, y), complex(x, y-1), complex(y, x), complex(-x, y), complex(x, -y), 0x1p31, complex(x, -0x1p40), complex(0x1p-61, y),
		complex(x, 3*0x1p-61), complex(nan, y), complex(x, nan), complex(inf, y), complex(x, -inf),
	}
	return slices.DeleteFunc(others, func(w complex128) bool { return sameWide(w, z) })
}

// notRadii are other exact numbers than a radius, and such that are none.
func notRadii(d impl.Dyadic) []impl.Dyadic {
	radii := []impl.Dyadic{nextRadius(d, 1), nextRadius(d, 1<<50), dyadicOf(plus(binaryOf(d), number("1p-51"))), dyadicOf(plus(binaryOf(d), number("1p1200")))}
	if d.Whole.Sign != 0 {
		even := multiplesOf(binaryOf(d), d.Exponent-1)
		radii = append(radii,
			nextRadius(d, -1), impl.Dyadic{}, dyadicOf(negated(binaryOf(d))),
			impl.Dyadic{Whole: d.Whole, Exponent: d.Exponent + 1},
			impl.Dyadic{Whole: wholeOf(even), Exponent: d.Exponent - 1},
			impl.Dyadic{Whole: impl.Whole{Sign: 1, Limbs: append(slices.Clone(d.Whole.Limbs), 0)}, Exponent: d.Exponent},
			impl.Dyadic{Whole: impl.Whole{Sign: 0, Limbs: d.Whole.Limbs}, Exponent: d.Exponent},
			impl.Dyadic{Whole: impl.Whole{Sign: 1}, Exponent: d.Exponent},
		)
	}
	for _, bad := range badDyadics() {
		radii = append(radii, bad)
	}
	return radii
}

// notGroups are changed groups of so many discs.
func notGroups(groups [][]int64, count int64) map[string][][]int64 {
	all := map[string][][]int64{"no groups": nil, "an empty group": {{}}, "groups of no discs": {{0}, {count}}}
	change := func(why string, how func(groups [][]int64) [][]int64) {
		var copied [][]int64
		for _, group := range groups {
			copied = append(copied, slices.Clone(group))
		}
		all[why] = how(copied)
	}
	change("one more empty group", func(groups [][]int64) [][]int64 { return append(groups, nil) })
	change("an empty group before", func(groups [][]int64) [][]int64 { return append([][]int64{{}}, groups...) })
	change("no last group", func(groups [][]int64) [][]int64 { return groups[:len(groups)-1] })
	change("one more group", func(groups [][]int64) [][]int64 { return append(groups, []int64{count - 1}) })
	change("one more index", func(groups [][]int64) [][]int64 { groups[0] = append(groups[0], count); return groups })
	change("an index twice", func(groups [][]int64) [][]int64 { groups[0] = append(groups[0], groups[0][0]); return groups })
	change("another index", func(groups [][]int64) [][]int64 { groups[len(groups)-1][0]++; return groups })
	change("an index less than 0", func(groups [][]int64) [][]int64 { groups[0][0] = -1; return groups })
	change("a great index", func(groups [][]int64) [][]int64 { groups[0][len(groups[0])-1] += 1 << 32; return groups })
	for g, group := range groups {
		if g > 0 {
			change(fmt.Sprintf("groups %d joined", g), func(groups [][]int64) [][]int64 {
				groups[g-1] = append(groups[g-1], group...)
				slices.Sort(groups[g-1])
				return slices.Delete(groups, g, g+1)
			})
			change(fmt.Sprintf("groups %d in order", g), func(groups [][]int64) [][]int64 {
				groups[g-1], groups[g] = groups[g], groups[g-1]
				return groups
			})
		}
		if len(group) > 1 {
			change(fmt.Sprintf("group %d split", g), func(groups [][]int64) [][]int64 {
				return slices.Replace(groups, g, g+1, group[:1], group[1:])
			})
			change(fmt.Sprintf("indices of group %d in order", g), func(groups [][]int64) [][]int64 {
				slices.Reverse(groups[g])
				return groups
			})
			change(fmt.Sprintf("no index of group %d", g), func(groups [][]int64) [][]int64 {
				groups[g] = groups[g][1:]
				return groups
			})
		}
	}
	return all
}

type answeredCase struct {
	p, list []complex128
}

// answeredCases have answers of degrees 1, 2 and MaxDegree, with one group and with several, and with
// parts of 0.
func answeredCases() []answeredCase {
	fours, roots := foursOfRoots()
	return []answeredCase{
		{realList(2, -3, 1), realList(1, 2)},
		{realList(2, -3, 1), realList(1, 3)},
		{realList(-3, 1), realList(5)},
		{[]complex128{2i, 1i}, []complex128{1 + 4i}},
		{realList(0, 0, -100, 1), []complex128{100, 0x1p-20i, -0x1p-20 + 0x1p-21i}},
		{fours, roots},
		{fours, realList(0, 1, 2, 3, 4, 5, 6, 7, 8, 9, 10, 11)},
	}
}

func checkIsAnswer(t *testing.T, why string, p []complex128, a impl.Answer, want bool) {
	t.Helper()
	if impl.IsAnswer(p, a) != want {
		t.Errorf("IsAnswer(%v, %s), %s, is %v", p, answerText(a), why, !want)
	}
}

func TestIsAnswer(t *testing.T) {
	for _, c := range answeredCases() {
		a, code := impl.AnswerOf(c.p, c.list)
		if code != impl.ErrNone {
			t.Fatalf("AnswerOf(%v, %v): code %d", c.p, c.list, code)
		}
		checkIsAnswer(t, "made of a list", c.p, a, true)
		checkIsAnswer(t, "copied", c.p, copyOf(a), true)
		for why, b := range notAnswers(a) {
			checkIsAnswer(t, why, c.p, b, false)
		}
		// Of other polynomials: a multiple has the same discs, and others have not.
		checkIsAnswer(t, "of a multiple", timesNumber(c.p, 2i), a, true)
		checkIsAnswer(t, "of another polynomial", with(c.p, 0, c.p[0]+17), a, false)
		checkIsAnswer(t, "of a longer polynomial", append(slices.Clone(c.p), 1), a, false)
		checkIsAnswer(t, "of a shorter polynomial", c.p[1:], a, false)
		for _, p := range badPolynomials() {
			checkIsAnswer(t, "of no polynomial", p, a, false)
			checkIsAnswer(t, "of no polynomial", p, impl.Answer{}, false)
		}
	}
}

// With the zero value of an answer, and for coefficients that are not moderate.
func TestIsAnswerNeedsModerateCoefficients(t *testing.T) {
	a, _ := impl.AnswerOf(realList(0, 1), realList(0))
	for _, x := range append(notModerates, inf, nan) {
		for _, p := range [][]complex128{{0, complex(x, 0)}, {0, complex(1, x)}, {0, complex(-x, x)}} {
			checkIsAnswer(t, "coefficients that are not moderate", p, a, false)
		}
	}
	checkIsAnswer(t, "greatest coefficients", []complex128{0, -0x1p30 + 0x1p30i}, a, true)
	checkIsAnswer(t, "least coefficients", []complex128{0, 0x1p-60i}, a, true)
	checkIsAnswer(t, "nothing", nil, impl.Answer{}, false)
	checkIsAnswer(t, "one coefficient", ones(1), impl.Answer{}, false)
}

// Points and Centres have the same signs of 0: then they may also be less than AnswerOf makes them.
func TestIsAnswerTellsSignsOfZero(t *testing.T) {
	p := realList(0, -1, 1)
	a, _ := impl.AnswerOf(p, realList(0, 1))
	for i := range 2 {
		for _, z := range minusZeros {
			signed := complex(real(a.Points[i])+real(z), imag(z))
			if real(a.Points[i]) == 0 {
				signed = z
			}
			point, centre, both := copyOf(a), copyOf(a), copyOf(a)
			point.Points[i], centre.Discs[i].Centre = signed, signed
			both.Points[i], both.Discs[i].Centre = signed, signed
			isSame := sameWide(signed, a.Points[i])
			checkIsAnswer(t, "sign of a Point", p, point, isSame)
			checkIsAnswer(t, "sign of a Centre", p, centre, isSame)
			checkIsAnswer(t, "signs of both", p, both, true)
		}
	}
}

func TestIsAnswerOfAnyAnswers(t *testing.T) {
	changes := 0
	forAnswers(t, 505, 200, anyAnswered, func(r *rand.Rand, p []complex128, a impl.Answer) {
		checkIsAnswer(t, "made of a list", p, a, true)
		for why, b := range notAnswers(a) {
			if r.IntN(20) == 0 {
				checkIsAnswer(t, why, p, b, false)
				changes++
			}
		}
	})
	if changes < 1000 {
		t.Errorf("just %d changes", changes)
	}
}

// kindsCase has kinds and partners of the groups of an answer.
type kindsCase struct {
	p, list         []complex128
	kinds, partners []int64
}

func checkKinds(t *testing.T, p []complex128, a impl.Answer, kinds, partners []int64, wantCode int64) {
	t.Helper()
	if got, code := impl.KindsOfGroups(p, a); !slices.Equal(got, kinds) || code != wantCode {
		t.Errorf("KindsOfGroups(%v, %s) = %v, %d, want %v, %d", p, answerText(a), got, code, kinds, wantCode)
	}
	if got, code := impl.PartnersOf(p, a); !slices.Equal(got, partners) || code != wantCode {
		t.Errorf("PartnersOf(%v, %s) = %v, %d, want %v, %d", p, answerText(a), got, code, partners, wantCode)
	}
}

func TestKindsAndPartners(t *testing.T) {
	const unknown, isReal, other = impl.GroupUnknown, impl.GroupReal, impl.GroupNotReal
	const less = 0x1p-40
	double, _ := rootsByParts([]complex128{4 + 2i, 4 + 2i, 4 - 2i, 4 - 2i, -50})
	around := []complex128{4 + 2i - less, -50, 4 - 2i - less, 4 + 2i + less, 4 - 2i + less}
	for _, c := range []kindsCase{
		// Groups of one real root, also around points off the real axis.
		{realList(2, -3, 1), realList(1, 2), []int64{isReal, isReal}, []int64{0, 1}},
		{realList(-3, 1), realList(5), []int64{isReal}, []int64{0}},
		{realList(-3, 1), []complex128{5 - 1i}, []int64{isReal}, []int64{0}},
		{realList(-10, 2, 1), []complex128{-4, 1 + 1i}, []int64{isReal, isReal}, []int64{0, 1}},
		{realList(-8, -1, 1), []complex128{3.5 - 2i, -3.5 - 1i}, []int64{isReal, isReal}, []int64{0, 1}},
		// Groups off the real axis.
		{realList(13, 4, 1), []complex128{-3.5 + 3i, -1.5 - 4i}, []int64{other, other}, []int64{1, 0}},
		{double, around, []int64{other, isReal, other}, []int64{2, 1, 0}},
		// Groups of several discs that meet the axis, and are their own partners.
		{realList(2, -3, 1), realList(1, 3), []int64{unknown}, []int64{0}},
		{realList(16, -4, 1), []complex128{0.5 + 3i, 4 - 3i}, []int64{unknown}, []int64{0}},
		{realList(0, 0, -100, 1), []complex128{100, 0x1p-20, -0x1p-20i}, []int64{isReal, unknown}, []int64{0, 1}},
		// Discs that just meet the axis, and just miss it.
		{realList(2, 0, 1), []complex128{1i, -1i}, []int64{unknown}, []int64{0}},
		{realList(2-less, 0, 1), []complex128{1i, -1i}, []int64{other, other}, []int64{1, 0}},
		{realList(11, -6, 1), []complex128{4 + 2i, 3 - 2i}, []int64{unknown, other}, []int64{-1, 0}},
		{realList(11+less, -6, 1), []complex128{4 + 2i, 3 - 2i}, []int64{other, other}, []int64{1, 0}},
		// Mirrors that touch the discs of several groups, and partners that have none themselves.
		{realList(15, -7, 1), []complex128{3 - 1.5i, 4 + 3.5i}, []int64{other, unknown}, []int64{1, -1}},
		{realList(-40, 6, 4, 1), []complex128{4 + 1.5i, -4 + 4i, -2.5 - 3i}, []int64{unknown, other}, []int64{-1, 0}},
		{realList(3, 3, -1, 1), []complex128{3.5i, -2, 1.5 - 2.5i}, []int64{unknown, other}, []int64{-1, 0}},
	} {
		a, code := impl.AnswerOf(c.p, c.list)
		if code != impl.ErrNone {
			t.Fatalf("AnswerOf(%v, %v): code %d", c.p, c.list, code)
		}
		checkKinds(t, c.p, a, c.kinds, c.partners, impl.ErrNone)
		// Imaginary parts of -0, and last coefficients less than 0.
		for n, z := range c.p {
			c.p[n] = complex(-3*real(z), negative)
		}
		checkKinds(t, c.p, a, c.kinds, c.partners, impl.ErrNone)
		for n := range c.p {
			for _, y := range []float64{1, -1, 0x1p-60, 0x1p30} {
				p := with(c.p, n, complex(real(c.p[n]), y))
				b, _ := impl.AnswerOf(p, c.list)
				checkKinds(t, p, b, nil, nil, impl.ErrState)
			}
		}
	}
}

func TestKindsAndPartnersOfAnyAnswers(t *testing.T) {
	met := map[string]int{}
	forAnswers(t, 506, 1500, anyRealAnswered, func(r *rand.Rand, p []complex128, a impl.Answer) {
		var kinds, partners []int64
		for g, group := range a.Groups {
			kinds = append(kinds, kindByParts(a, g))
			partners = append(partners, partnerByParts(a, g))
			met[fmt.Sprintf("kind %d, of several %v", kinds[g], len(group) > 1)]++
			met[fmt.Sprintf("no partner %v, own %v", partners[g] < 0, partners[g] == int64(g))]++
			// The mirrors of a group hold the conjugates of its roots, which are roots in some disc.
			if !slices.Contains(mirroredByParts(a, g), true) {
				t.Errorf("the mirrors of the group %d of %s touch no disc", g, answerText(a))
			}
		}
		checkKinds(t, p, a, kinds, partners, impl.ErrNone)
	})
	for _, name := range []string{
		"kind 0, of several true", "kind 1, of several false", "kind 2, of several true", "kind 2, of several false",
		"no partner false, own false", "no partner false, own true",
	} {
		if met[name] < 50 {
			t.Errorf("just %v", met)
			break
		}
	}
}

// Few points that are far from the roots make groups of one disc with an unknown kind, and such without
// partners.
func TestKindsAndPartnersOfFarPoints(t *testing.T) {
	unknown, without := 0, 0
	far := func(r *rand.Rand) ([]complex128, []complex128) {
		p, _ := realRoots(r, 2+r.IntN(2))
		p[0] += complex(float64(r.IntN(40)), 0)
		var list []complex128
		for range len(p) - 1 {
			list = append(list, complex(float64(r.IntN(17)-8)/2, float64(r.IntN(17)-8)/2))
		}
		return p, list
	}
	forAnswers(t, 507, 6000, far, func(_ *rand.Rand, p []complex128, a impl.Answer) {
		var kinds, partners []int64
		for g, group := range a.Groups {
			kinds = append(kinds, kindByParts(a, g))
			partners = append(partners, partnerByParts(a, g))
			if kinds[g] == impl.GroupUnknown && len(group) == 1 {
				unknown++
			}
			if partners[g] < 0 {
				without++
			}
		}
		checkKinds(t, p, a, kinds, partners, impl.ErrNone)
	})
	if unknown < 30 || without < 30 {
		t.Errorf("just %d groups of one disc are unknown, and %d are without a partner", unknown, without)
	}
}
