package tests

import (
	"fmt"
	"math"
	"math/rand/v2"
	"slices"
	"testing"

	"loop.example/g01156/impl"
)

// partCase is a float with what is made of it as a part of a number that is made moderate.
type partCase struct {
	x, want float64
	code    int64
}

func moderatePartCases() []partCase {
	above := math.Nextafter(0x1p30, inf)
	return []partCase{
		{0.5, 0.5, impl.ErrNone}, {0.25, 0.25, impl.ErrNone}, {3, 3, impl.ErrNone}, {0.1, 0.1, impl.ErrNone},
		{0x1p-60, 0x1p-60, impl.ErrNone}, {7 * 0x1p-60, 7 * 0x1p-60, impl.ErrNone},
		// Half-way between two multiples: with an odd one below, and with an even one.
		{3 * 0x1p-61, 0x1p-59, impl.ErrNone},
		{5 * 0x1p-61, 0x1p-59, impl.ErrNone},
		{7 * 0x1p-61, 0x1p-58, impl.ErrNone},
		{9 * 0x1p-61, 0x1p-58, impl.ErrNone},
		{0x1p-8 - 0x1p-61, 0x1p-8, impl.ErrNone},
		{0x1p-8 - 3*0x1p-61, 0x1p-8 - 0x1p-59, impl.ErrNone},
		{0x1p-9 + 0x1p-61, 0x1p-9, impl.ErrNone},
		{0x1p-9 + 3*0x1p-61, 0x1p-9 + 0x1p-59, impl.ErrNone},
		// Beside them.
		{math.Nextafter(3*0x1p-61, 0), 0x1p-60, impl.ErrNone},
		{math.Nextafter(5*0x1p-61, 1), 3 * 0x1p-60, impl.ErrNone},
		{0x1p-60 + 0x1p-62, 0x1p-60, impl.ErrNone},
		{0x1p-59 - 0x1p-62, 0x1p-59, impl.ErrNone},
		{math.Nextafter(0x1p-61, 1), 0x1p-60, impl.ErrNone},
		{0x1p-61 + 0x1p-62, 0x1p-60, impl.ErrNone},
		// These become 0.
		{0, 0, impl.ErrNone}, {0x1p-61, 0, impl.ErrNone}, {math.Nextafter(0x1p-61, 0), 0, impl.ErrNone},
		{0x1p-62, 0, impl.ErrNone}, {1e-30, 0, impl.ErrNone}, {0x1p-1022, 0, impl.ErrNone}, {tiny, 0, impl.ErrNone},
		// Around the greatest parts.
		{0x1p30, 0x1p30, impl.ErrNone}, {math.Nextafter(0x1p30, 0), 0x1p30 - 0x1p-23, impl.ErrNone},
		{above, 0, impl.ErrLimit}, {0x1p30 + 1, 0, impl.ErrLimit}, {0x1p31, 0, impl.ErrLimit}, {0x1p963, 0, impl.ErrLimit},
		{0x1p964, 0, impl.ErrLimit}, {0x1p1000, 0, impl.ErrLimit}, {huge, 0, impl.ErrLimit},
	}
}

// opposite is the same case of the other sign, but a part that becomes 0 has none.
func (c partCase) opposite() partCase {
	return partCase{-c.x, 0 - c.want, c.code}
}

func checkModerate(t *testing.T, z, want complex128, wantCode int64) {
	t.Helper()
	got, code := impl.MakeModerate(z)
	checkWide(t, fmt.Sprintf("MakeModerate(%v)", z), got, code, want, wantCode)
}

func TestMakeModerate(t *testing.T) {
	checkModerate(t, 0.5+0.25i, 0.5+0.25i, impl.ErrNone)
	checkModerate(t, complex(negative, negative), 0, impl.ErrNone)
	cases := moderatePartCases()
	for _, c := range moderatePartCases() {
		cases = append(cases, c.opposite())
	}
	for _, c := range cases {
		for _, d := range cases {
			checkModerate(t, complex(c.x, d.x), complex(c.want, d.want), max(c.code, d.code))
		}
	}
}

func TestMakeModerateOfAnyNumbers(t *testing.T) {
	r := newRandom(501)
	counts, changed := map[int64]int{}, 0
	for range 20000 {
		z := anyWide(r)
		switch r.IntN(4) {
		case 0:
			z = complex(moderateFloat(r, 31), moderateFloat(r, 30))
		case 1:
			z = complex(moderateFloat(r, -6)*0x1p-1, moderateFloat(r, 30)*0x1p-1)
		case 2:
			z = spreadNumbers(r, 1, -70, 32)[0]
		}
		want, code := moderateByParts(z)
		checkModerate(t, z, want, code)
		counts[code]++
		if code == impl.ErrNone {
			if !impl.IsModerate(want) {
				t.Errorf("%v of %v is not moderate", want, z)
			}
			checkModerate(t, want, want, impl.ErrNone)
			if want != z {
				changed++
			}
		}
		if t.Failed() {
			return
		}
	}
	if counts[impl.ErrNone] < 10000 || counts[impl.ErrLimit] < 1000 || changed < 3000 {
		t.Errorf("the codes are %v, and %d numbers are changed", counts, changed)
	}
}

func checkSeparated(t *testing.T, list, want []complex128, wantCode int64) {
	t.Helper()
	got, code := impl.SeparatePoints(list)
	checkCoefficients(t, fmt.Sprintf("SeparatePoints(%v)", list), got, code, want, wantCode)
}

func TestSeparatePoints(t *testing.T) {
	const less = 1 - 0x1p-30 - 0x1p-40
	for _, c := range []struct{ list, want []complex128 }{
		{realList(1, 1, 0), realList(1, less, 0)},
		{nil, nil},
		{[]complex128{}, nil},
		{realList(5), realList(5)},
		{[]complex128{3 - 1i, 1e-30i}, []complex128{3 - 1i, 0}},
		// Real parts of 0 and less than 0 are made greater.
		{realList(0, 0), realList(0, 0x1p-30)},
		{realList(-1, -1), realList(-1, -less)},
		{realList(-3, 2, -3, 2), realList(-3, 2, -3+3*0x1p-40+0x1p-30, 2-0x1p-39-0x1p-30)},
		// Signs of 0, and numbers that are told apart by one part.
		{append([]complex128{0}, minusZeros...), realList(0, 0x1p-30, 0x1p-29, 3*0x1p-30)},
		{[]complex128{complex(negative, 1), 1i}, []complex128{1i, complex(0x1p-30, 1)}},
		{[]complex128{complex(2, negative), 2}, realList(2, 2-0x1p-39-0x1p-30)},
		{[]complex128{1 + 1i, 1 - 1i, -1 + 1i, -1 - 1i, 1, 1i}, []complex128{1 + 1i, 1 - 1i, -1 + 1i, -1 - 1i, 1, 1i}},
		// Imaginary parts stay.
		{[]complex128{2 + 3i, 2 + 3i, 2 - 3i}, []complex128{2 + 3i, complex(2-0x1p-39-0x1p-30, 3), 2 - 3i}},
		{[]complex128{complex(0, 0x1p30), complex(0, 0x1p30)}, []complex128{complex(0, 0x1p30), complex(0x1p-30, 0x1p30)}},
		// Equal when they are made moderate.
		{realList(0, 0x1p-61, -0x1p-62), realList(0, 0x1p-30, 0x1p-29)},
		{realList(0x1p-60, 3*0x1p-62), realList(0x1p-60, 0x1p-60-0x1p-30)},
		{[]complex128{complex(1, 1e-30), 1 - 1e-30i}, realList(1, less)},
		// Equal by a replacement, to earlier numbers, and not to later ones before their turn.
		{realList(0, 0x1p-30, 0), realList(0, 0x1p-30, 0x1p-29)},
		{realList(0, 0, 0x1p-30), realList(0, 0x1p-30, -0x1p-30)},
		{realList(1, less, 1), realList(1, less, 1-0x1p-29-0x1p-39)},
		{realList(1, 1, less), realList(1, less, 1-0x1p-29-0x1p-39)},
		// Parts go on in their direction at 0, and beyond it.
		{realList(0x1p-30, 0, 0x1p-30), realList(0x1p-30, 0, -0x1p-30)},
		{realList(-0x1p-30, 0, -0x1p-30), realList(-0x1p-30, 0, 0x1p-30)},
		{realList(0x1p-30, 0, -0x1p-30, 0x1p-30), realList(0x1p-30, 0, -0x1p-30, -0x1p-29)},
		{realList(-0x1p-30, 0, 0x1p-30, -0x1p-30), realList(-0x1p-30, 0, 0x1p-30, 0x1p-29)},
		{realList(0x1p-30, 0x1p-30), realList(0x1p-30, 0)},
		{realList(-0x1p-30, -0x1p-30), realList(-0x1p-30, 0)},
		// Near the greatest parts.
		{realList(0x1p30, 0x1p30, 0x1p30), realList(0x1p30, 0x1p30-0x1p-10, 0x1p30-0x1p-9)},
		{realList(-0x1p30, -0x1p30, -0x1p30), realList(-0x1p30, -0x1p30+0x1p-10, -0x1p30+0x1p-9)},
		{realList(0x1p30-0x1p-23, 0x1p30-0x1p-23), realList(0x1p30-0x1p-23, 0x1p30-0x1p-10-0x1p-23)},
		{[]complex128{-0x1p30 - 0x1p30i, -0x1p30 - 0x1p30i}, []complex128{-0x1p30 - 0x1p30i, -0x1p30 + 0x1p-10 - 0x1p30i}},
	} {
		checkSeparated(t, c.list, c.want, impl.ErrNone)
	}
}

// Hundred equal numbers take many replacements, and one more number is not allowed.
func TestSeparatePointsOfManyNumbers(t *testing.T) {
	for _, z := range []complex128{1, -1, 0, complex(negative, 2), 0x1p30 - 3i, -0x1p30, 0x1p-31, -0x1p-26, 17 * 0x1p-30, 0.1 - 0.2i, 1e-30} {
		list := slices.Repeat([]complex128{z}, 100)
		want, replaced, code := separatedByParts(list)
		checkSeparated(t, list, want, code)
		if code != impl.ErrNone || replaced != 99*100/2 {
			t.Errorf("the numbers %v take %d replacements, %d", z, replaced, code)
		}
		for i, w := range want {
			if slices.Contains(want[:i], w) || !impl.IsModerate(w) || imag(w) != imag(want[0]) {
				t.Errorf("%v is separated to %v", z, w)
			}
		}
		for _, count := range []int{101, 102, 2000} {
			checkSeparated(t, slices.Repeat([]complex128{z}, count), nil, impl.ErrRange)
		}
	}
}

func TestSeparatePointsOfAnyNumbers(t *testing.T) {
	r := newRandom(502)
	codes, several := map[int64]int{}, 0
	for range 3000 {
		list := anyFew(r, r.IntN(40))
		switch r.IntN(4) {
		case 0:
			list = anyNumbers(r, r.IntN(12))
		case 1:
			list = spreadNumbers(r, r.IntN(6), -66, 31)
		}
		if r.IntN(3) == 0 {
			list = append(list, list...)
		}
		want, replaced, code := separatedByParts(list)
		checkSeparated(t, list, want, code)
		codes[code]++
		if replaced > len(list) {
			several++
		}
		if t.Failed() {
			return
		}
	}
	if codes[impl.ErrNone] < 1500 || codes[impl.ErrLimit] < 100 || several < 300 {
		t.Errorf("the codes are %v, and %d lists take many replacements", codes, several)
	}
}

func checkAnswerOf(t *testing.T, p, list []complex128, want impl.Answer, wantCode int64) {
	t.Helper()
	a, code := impl.AnswerOf(p, list)
	checkAnswer(t, fmt.Sprintf("AnswerOf(%v, %v)", p, list), a, code, want, wantCode)
}

func TestAnswerOf(t *testing.T) {
	const less = 1 - 0x1p-30 - 0x1p-40
	square, twelve := realList(2, -3, 1), append(make([]complex128, 12), 1)
	for _, c := range []struct {
		p, list []complex128
		want    impl.Answer
	}{
		{square, realList(1, 2), impl.Answer{Points: realList(1, 2), Discs: discs("0p0", 1, 2), Groups: [][]int64{{0}, {1}}}},
		{square, realList(2, 1), impl.Answer{Points: realList(2, 1), Discs: discs("0p0", 2, 1), Groups: [][]int64{{0}, {1}}}},
		{square, realList(1, 3), impl.Answer{Points: realList(1, 3), Discs: []impl.Disc{disc(1, "0p0"), disc(3, "1p1")}, Groups: [][]int64{{0, 1}}}},
		// Equal numbers, numbers that become moderate, and zeros without signs.
		{square, realList(1, 1), impl.Answer{Points: realList(1, less), Discs: []impl.Disc{disc(1, "0p0"), disc(less, "1099511628801p-39")}, Groups: [][]int64{{0, 1}}}},
		{square, []complex128{complex(2, negative), complex(1, 1e-30)}, impl.Answer{Points: realList(2, 1), Discs: discs("0p0", 2, 1), Groups: [][]int64{{0}, {1}}}},
		{realList(0, 2), []complex128{minusZeros[2]}, impl.Answer{Points: realList(0), Discs: discs("0p0", 0), Groups: [][]int64{{0}}}},
		// Degree 1.
		{realList(-3, 1), realList(5), impl.Answer{Points: realList(5), Discs: discs("1p1", 5), Groups: [][]int64{{0}}}},
		{[]complex128{2i, 1i}, []complex128{1 + 4i}, impl.Answer{Points: []complex128{1 + 4i}, Discs: discs("5p0", 1+4i), Groups: [][]int64{{0}}}},
	} {
		checkAnswerOf(t, c.p, c.list, c.want, impl.ErrNone)
	}
	// MaxDegree, with one group, with some, and with the most.
	var twice, around []complex128
	for _, z := range []complex128{1, -1, 1i, -1i, 2, -2} {
		twice = append(twice, z, z)
		around = append(around, z+0x1p-20, z-0x1p-20)
	}
	doubled, _ := rootsByParts(twice)
	for _, c := range []struct {
		p, list []complex128
		groups  int
	}{
		{twelve, realList(0, 1, 2, 3, 4, 5, 6, 7, 8, 9, 10, 11), 1},
		{doubled, around, 6},
		{ones(13), turnedRoots(13)[1:], 12},
	} {
		want, code := answerByParts(t, c.p, c.list)
		checkAnswerOf(t, c.p, c.list, want, code)
		if len(want.Groups) != c.groups || code != impl.ErrNone {
			t.Errorf("the answer of %v with %v has the groups %v", c.p, c.list, want.Groups)
		}
	}
}

// turnedRoots are near to the roots of x^n - 1.
func turnedRoots(n int) []complex128 {
	var roots []complex128
	for k := range n {
		sine, cosine := math.Sincos(2 * math.Pi * float64(k) / float64(n))
		roots = append(roots, complex(cosine, sine))
	}
	return roots
}

func TestAnswersOfAnyNumbers(t *testing.T) {
	r := newRandom(503)
	groups, degrees, limits := map[string]int{}, map[int]int{}, 0
	for range 1500 {
		p, list := anyAnswered(r)
		if r.IntN(10) == 0 {
			list[r.IntN(len(list))] *= 0x1p40
		}
		want, code := answerByParts(t, p, list)
		checkAnswerOf(t, p, list, want, code)
		switch {
		case code != impl.ErrNone:
			limits++
		case len(want.Groups) == 1:
			groups["one"]++
		case len(want.Groups) == len(list):
			groups["all"]++
		default:
			groups["some"]++
		}
		degrees[len(list)]++
		if t.Failed() {
			return
		}
	}
	if groups["one"] < 200 || groups["some"] < 200 || groups["all"] < 100 || limits < 40 || degrees[1] < 40 || degrees[2] < 40 || degrees[12] < 40 {
		t.Errorf("there are %v groups of degrees %v, and %d limits", groups, degrees, limits)
	}
}

// The greatest radii of answers are those of discs: points beside each other, at the end of their range.
func TestAnswersOfTheGreatestRadii(t *testing.T) {
	p := append(slices.Repeat([]complex128{0x1p30 + 0x1p30i}, 12), 0x1p-60)
	for _, corner := range []complex128{0x1p30 + 0x1p30i, -0x1p30 + 0x1p30i, 0x1p-8, 0} {
		var list []complex128
		for n := range 12 {
			list = append(list, corner-complex(math.Copysign(float64(n%4), real(corner)), float64(n/4))*0x1p-60)
			if real(corner) > 1 || real(corner) < -1 {
				list[n] = corner - complex(math.Copysign(float64(n%4), real(corner)), float64(n/4))*0x1p-23
			}
		}
		want, code := answerByParts(t, p, list)
		if code != impl.ErrNone {
			t.Fatalf("the answer with %v: code %d", list, code)
		}
		checkAnswerOf(t, p, list, want, impl.ErrNone)
		for _, d := range want.Discs {
			if !impl.IsDisc(d) {
				t.Errorf("%s is no disc", discText(d))
			}
		}
		if a, code := impl.AnswerOf(p, list); !impl.IsAnswer(p, a) || code != impl.ErrNone {
			t.Errorf("IsAnswer(%v, %s) is false", p, answerText(a))
		}
	}
}

func checkGroupsOfAnswer(t *testing.T, p []complex128, a impl.Answer) {
	t.Helper()
	all := int64(0)
	for g, group := range a.Groups {
		n, code := impl.MultiplicityOf(p, a, int64(g))
		checkInteger(t, fmt.Sprintf("MultiplicityOf(%v, %s, %d)", p, answerText(a), g), n, code, int64(len(group)), impl.ErrNone)
		all += n
		z, code := impl.MiddleOf(p, a, int64(g))
		checkWide(t, fmt.Sprintf("MiddleOf(%v, %s, %d)", p, answerText(a), g), z, code, middleByParts(a, g), impl.ErrNone)
	}
	if all != int64(len(p)-1) {
		t.Errorf("the multiplicities of %s add up to %d", answerText(a), all)
	}
	for _, g := range []int64{-1, int64(len(a.Groups)), int64(len(a.Groups)) + 1, 1 << 32, math.MaxInt64, math.MinInt64} {
		n, code := impl.MultiplicityOf(p, a, g)
		checkInteger(t, fmt.Sprintf("MultiplicityOf(%v, %s, %d)", p, answerText(a), g), n, code, 0, impl.ErrRange)
		z, code := impl.MiddleOf(p, a, g)
		checkWide(t, fmt.Sprintf("MiddleOf(%v, %s, %d)", p, answerText(a), g), z, code, 0, impl.ErrRange)
	}
}

func TestMultiplicitiesAndMiddles(t *testing.T) {
	cube := realList(-6, 11, -6, 1)
	for _, c := range []struct {
		p, list []complex128
		middles []complex128
	}{
		// Groups of one disc, of all, and of some.
		{realList(2, -3, 1), realList(1, 2), realList(1, 2)},
		{realList(2, -3, 1), realList(1, 3), realList(2)},
		{realList(-3, 1), realList(5), realList(5)},
		{cube, realList(1, 2, 3), realList(1, 2, 3)},
		{cube, realList(1, 2, 4), []complex128{complex(quotientOf(7, 3), 0)}},
		{cube, []complex128{3 + 3i, -1 - 2i, 0.25i}, []complex128{complex(quotientOf(2, 3), quotientOf(1.25, 3))}},
		{realList(0, 0, -100, 1), []complex128{100, 0x1p-20, -0x1p-20 + 0x1p-21i}, []complex128{100, complex(0, 0x1p-22)}},
		{realList(0, 0, -100, 1), []complex128{0x1p-20, 100, -0x1p-20 + 0x1p-21i}, []complex128{complex(0, 0x1p-22), 100}},
	} {
		a, code := impl.AnswerOf(c.p, c.list)
		if len(a.Groups) != len(c.middles) || code != impl.ErrNone {
			t.Errorf("the answer of %v with %v is %s, %d", c.p, c.list, answerText(a), code)
			continue
		}
		for g, want := range c.middles {
			z, code := impl.MiddleOf(c.p, a, int64(g))
			checkWide(t, fmt.Sprintf("MiddleOf(%v, %s, %d)", c.p, answerText(a), g), z, code, want, impl.ErrNone)
		}
		checkGroupsOfAnswer(t, c.p, a)
	}
}

func TestMultiplicitiesAndMiddlesOfAnyAnswers(t *testing.T) {
	forAnswers(t, 504, 400, anyAnswered, func(_ *rand.Rand, p []complex128, a impl.Answer) {
		checkGroupsOfAnswer(t, p, a)
	})
}
