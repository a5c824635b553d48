package tests

import (
	"fmt"
	"math/big"
	"math/rand/v2"
	"slices"
	"testing"

	"loop.example/g01156/impl"
)

func answerText(a impl.Answer) string {
	return fmt.Sprintf("{%v, %v, %v}", a.Points, discTexts(a.Discs), a.Groups)
}

func sameAnswer(a, b impl.Answer) bool {
	return slices.EqualFunc(a.Points, b.Points, sameWide) && slices.EqualFunc(a.Discs, b.Discs, sameDisc) && sameGroups(a.Groups, b.Groups)
}

// checkAnswer compares a result with the answer that is wanted, or with the zero value if a code
// other than ErrNone is.
func checkAnswer(t *testing.T, name string, a impl.Answer, code int64, want impl.Answer, wantCode int64) {
	t.Helper()
	if wantCode != impl.ErrNone {
		want = impl.Answer{}
	}
	if !sameAnswer(a, want) || code != wantCode {
		t.Errorf("%s = %s, %d, want %s, %d", name, answerText(a), code, answerText(want), wantCode)
	}
}

// partByParts is the nearest multiple of 2^-60 of a finite float, of two as near the even one.
func partByParts(x float64) (float64, int64) {
	value, step := valueOf(x), number("1p-60")
	below := floorOf(value, 60)
	above := plus(below, step)
	nearest := below
	isOdd := multiplesOf(below, -60-max(0, -60-below.exponent)).Bit(0) == 1
	if order := compare(minus(value, below), minus(above, value)); order > 0 || order == 0 && isOdd {
		nearest = above
	}
	if compare(absoluteOf(nearest), number("1p30")) > 0 {
		return 0, impl.ErrLimit
	}
	// Zeros of whole numbers have no sign.
	return rounded(floatOf(nearest)), impl.ErrNone
}

func moderateByParts(z complex128) (complex128, int64) {
	re, reCode := partByParts(real(z))
	im, imCode := partByParts(imag(z))
	if code := max(reCode, imCode); code != impl.ErrNone {
		return 0, code
	}
	return complex(re, im), impl.ErrNone
}

// separatedByParts also tells how many replacements it has made.
func separatedByParts(list []complex128) ([]complex128, int, int64) {
	var points []complex128
	for _, z := range list {
		moderate, code := moderateByParts(z)
		if code != impl.ErrNone {
			return nil, 0, code
		}
		points = append(points, moderate)
	}
	replaced := 0
	for i := range points {
		first := real(points[i])
		for slices.Contains(points[:i], points[i]) {
			x := real(points[i])
			s := sumOf(productOf(max(x, -x), 0x1p-40), 0x1p-30)
			if first <= 0 {
				x = sumOf(x, s)
			} else {
				x = sumOf(x, -s)
			}
			points[i], _ = moderateByParts(complex(x, imag(points[i])))
			replaced++
		}
	}
	return points, replaced, impl.ErrNone
}

// answerByParts is the answer of a polynomial with moderate coefficients.
func answerByParts(t *testing.T, p, list []complex128) (impl.Answer, int64) {
	t.Helper()
	points, _, code := separatedByParts(list)
	if code != impl.ErrNone {
		return impl.Answer{}, code
	}
	a := impl.Answer{Points: points}
	for i, z := range points {
		a.Discs = append(a.Discs, impl.Disc{Centre: z, Radius: dyadicOf(radiusByParts(t, p, points, i))})
	}
	a.Groups = groupsByWays(a.Discs)
	return a, impl.ErrNone
}

// groupOf tells in which group each disc is.
func groupOf(a impl.Answer) []int {
	numbers := make([]int, len(a.Discs))
	for g, group := range a.Groups {
		for _, i := range group {
			numbers[i] = g
		}
	}
	return numbers
}

func middleByParts(a impl.Answer, g int) complex128 {
	var c calculation
	sum := complex128(0)
	for _, i := range a.Groups[g] {
		sum = c.sum(sum, a.Points[i])
	}
	return c.quotient(sum, complex(float64(len(a.Groups[g])), 0))
}

// mirroredByParts tells for each group whether it has a disc that touches the mirror of one of the
// group g.
func mirroredByParts(a impl.Answer, g int) []bool {
	touched, numbers := make([]bool, len(a.Groups)), groupOf(a)
	for _, i := range a.Groups[g] {
		mirror := a.Discs[i]
		mirror.Centre = complex(real(mirror.Centre), -imag(mirror.Centre))
		for k, d := range a.Discs {
			if areTouching(d, mirror) {
				touched[numbers[k]] = true
			}
		}
	}
	return touched
}

func kindByParts(a impl.Answer, g int) int64 {
	touched := mirroredByParts(a, g)
	touched[g] = false
	if len(a.Groups[g]) == 1 && !slices.Contains(touched, true) {
		return impl.GroupReal
	}
	for _, i := range a.Groups[g] {
		if compare(absoluteOf(valueOf(imag(a.Discs[i].Centre))), binaryOf(a.Discs[i].Radius)) <= 0 {
			return impl.GroupUnknown
		}
	}
	return impl.GroupNotReal
}

func partnerByParts(a impl.Answer, g int) int64 {
	touched := mirroredByParts(a, g)
	first := slices.Index(touched, true)
	if first < 0 || slices.Contains(touched[first+1:], true) {
		return -1
	}
	return int64(first)
}

func withinByParts(b, a impl.Answer) bool {
	isInsideOf := func(d impl.Disc, group []int64) bool {
		return slices.ContainsFunc(group, func(i int64) bool { return isHeld(d, a.Discs[i]) })
	}
	var all []int64
	for i := range a.Discs {
		all = append(all, int64(i))
	}
	for _, d := range b.Discs {
		if !isInsideOf(d, all) {
			return false
		}
	}
	for _, group := range a.Groups {
		count := 0
		for _, d := range b.Discs {
			if isInsideOf(d, group) {
				count++
			}
		}
		if count != len(group) {
			return false
		}
	}
	return len(a.Discs) == len(b.Discs)
}

// refinedByParts takes the wide run as chapter 7 makes it.
func refinedByParts(t *testing.T, p []complex128, a impl.Answer, kind int64, turn bool, most int64) (impl.Answer, bool) {
	t.Helper()
	run, code := impl.RunTogether(p, a.Points, kind, turn, 0, most)
	if code != impl.ErrNone {
		return a, false
	}
	refined, code := answerByParts(t, p, run.Points)
	if code != impl.ErrNone || !withinByParts(refined, a) {
		return a, false
	}
	return refined, true
}

func clustersByWays(list []complex128, r float64) [][]int64 {
	return classesByWays(len(list), func(i, k int) bool {
		difference := complex(sumOf(real(list[i]), -real(list[k])), sumOf(imag(list[i]), -imag(list[k])))
		size := sizeOf(difference)
		return allFinite(size, 0) && size <= r
	})
}

func (o inOrder) sensitivity(p []complex128, z complex128) float64 {
	slope := o.slope(p, z)
	size, point := o.size(slope), o.size(z)
	s := o.size(p[len(p)-1])
	for k := len(p) - 2; k >= 0; k-- {
		s = o.float(sumOf(o.float(productOf(s, point)), o.size(p[k])))
	}
	return real(o.quotient(complex(s, 0), complex(size, 0)))
}

// sensitivityCode puts all limits before a slope of 0.
func (o inOrder) sensitivityCode(p []complex128, z complex128) (float64, int64) {
	var sensitivity float64
	code := codeInOrder(func() { sensitivity = o.sensitivity(p, z) })
	return sensitivity, code
}

// realRoots gives a polynomial of small real whole roots and pairs of conjugates, some of which may be
// met more than once, and these.
func realRoots(r *rand.Rand, degree int) ([]complex128, []complex128) {
	var roots []complex128
	for len(roots) < degree {
		z := complex(float64(r.IntN(9)-4), float64(r.IntN(4)))
		switch {
		case r.IntN(6) == 0 && len(roots) > 0 && imag(roots[len(roots)-1]) == 0:
			roots = append(roots, roots[len(roots)-1])
		case imag(z) == 0 || r.IntN(3) == 0 || len(roots)+1 == degree:
			roots = append(roots, complex(real(z), 0))
		default:
			roots = append(roots, z, complex(real(z), -imag(z)))
		}
	}
	p, _ := rootsByParts(roots)
	return p, roots
}

// besidePairs gives points near to real roots and to pairs of conjugates, at the same places of the
// list: many are real, or conjugates themselves.
func besidePairs(r *rand.Rand, roots []complex128) []complex128 {
	points := besideNumbers(r, roots)
	for i, z := range roots {
		switch {
		case imag(z) == 0 && r.IntN(2) == 0:
			points[i] = complex(real(points[i]), 0)
		case imag(z) < 0 && r.IntN(2) == 0:
			points[i] = complex(real(points[i-1]), -imag(points[i-1]))
		}
	}
	return points
}

// anyRealAnswered gives a polynomial with real coefficients, and points of which it has an answer:
// near to its roots, or any.
func anyRealAnswered(r *rand.Rand) ([]complex128, []complex128) {
	degree := 1 + r.IntN(impl.MaxDegree)
	if r.IntN(4) == 0 {
		degree = 1 + r.IntN(4)
	}
	p, roots := realRoots(r, degree)
	switch r.IntN(6) {
	case 0:
		return p, moderates(r, degree)
	case 1:
		for n := range p {
			p[n] = complex(real(p[n]), []float64{0, negative}[r.IntN(2)])
		}
		return p, wholeNumbers(r, degree)
	case 2:
		for n := range p[:degree] {
			p[n] += complex(float64(r.IntN(3)-1), 0)
		}
	}
	return p, besidePairs(r, roots)
}

// anyAnswered gives a polynomial with moderate coefficients, and as many numbers as its degree tells:
// near to its roots or far from them, some of them equal or not moderate.
func anyAnswered(r *rand.Rand) ([]complex128, []complex128) {
	degree := 1 + r.IntN(impl.MaxDegree)
	switch r.IntN(6) {
	case 0:
		return anyRealAnswered(r)
	case 1:
		return moderatePolynomial(r, degree), moderates(r, degree)
	case 2:
		return moderatePolynomial(r, degree), anyFew(r, degree)
	case 3:
		return moderatePolynomial(r, degree), spreadNumbers(r, degree, -70, 5+r.IntN(25))
	default:
		p, roots := wholeRoots(r, degree)
		return p, besideNumbers(r, roots)
	}
}

// anyFew gives numbers many of which are equal, or become equal when they are made moderate, or by
// replacements.
func anyFew(r *rand.Rand, count int) []complex128 {
	base := []float64{0, negative, 1, -1, 0x1p-30, -0x1p-30, 0x1p-29, 1 - 0x1p-30 - 0x1p-40, 3, 0x1p30, -0x1p30, 0x1p-62, -0x1p-61}
	base = base[r.IntN(len(base)-2):][:3]
	var list []complex128
	for range count {
		z := complex(base[r.IntN(3)], []float64{0, negative, 1}[r.IntN(3)])
		if r.IntN(4) == 0 && len(list) > 0 {
			near := list[len(list)-1] + complex([]float64{0x1p-30, -0x1p-30, 0x1p-62}[r.IntN(3)], 0)
			if real(near) <= 0x1p30 && real(near) >= -0x1p30 {
				z = near
			}
		}
		list = append(list, z)
	}
	return list
}

// forAnswers calls check with random polynomials and their answers, until the test has failed.
func forAnswers(t *testing.T, seed uint64, times int, any func(r *rand.Rand) ([]complex128, []complex128), check func(r *rand.Rand, p []complex128, a impl.Answer)) {
	t.Helper()
	r := newRandom(seed)
	for range times {
		p, list := any(r)
		a, code := impl.AnswerOf(p, list)
		if code != impl.ErrNone {
			t.Fatalf("AnswerOf(%v, %v): code %d", p, list, code)
		}
		check(r, p, a)
		if t.Failed() {
			return
		}
	}
}

// copyOf shares no memory with an answer.
func copyOf(a impl.Answer) impl.Answer {
	b := impl.Answer{Points: slices.Clone(a.Points)}
	for _, d := range a.Discs {
		b.Discs = append(b.Discs, impl.Disc{Centre: d.Centre, Radius: dyadicOf(binaryOf(d.Radius))})
	}
	for _, group := range a.Groups {
		b.Groups = append(b.Groups, slices.Clone(group))
	}
	return b
}

// nextRadius is a radius with some multiples of 2^-50 more.
func nextRadius(d impl.Dyadic, more int64) impl.Dyadic {
	return dyadicOf(plus(binaryOf(d), binary{big.NewInt(more), -50}))
}
