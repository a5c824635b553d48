package tests

import (
	"fmt"
	"math/rand/v2"
	"slices"
	"testing"

	"loop.example/g01156/impl"
)

// inOrder takes the operations of chapter 1 by parts, in one of both widths, and stops at the first
// one that fails with a panic, of which codeInOrder makes the code. Narrow numbers are told as wide
// ones.
type inOrder struct {
	isNarrow bool
}

type failedOperation int64

// codeInOrder is the code of what a function does in order.
func codeInOrder(do func()) (code int64) {
	defer func() {
		if failed := recover(); failed != nil {
			code = int64(failed.(failedOperation))
		}
	}()
	do()
	return impl.ErrNone
}

func (o inOrder) narrowed(z complex128) complex128 {
	if o.isNarrow {
		return complex128(narrowedByParts(z))
	}
	return z
}

func (o inOrder) kept(z complex128) complex128 {
	if z = o.narrowed(z); codeOf(z) != impl.ErrNone {
		panic(failedOperation(impl.ErrLimit))
	}
	return z
}

func (o inOrder) sum(a, b complex128) complex128 {
	if o.isNarrow {
		c, d := complex64(a), complex64(b)
		return o.kept(complex128(complex(narrowSumOf(real(c), real(d)), narrowSumOf(imag(c), imag(d)))))
	}
	return o.kept(complex(sumOf(real(a), real(b)), sumOf(imag(a), imag(b))))
}

func (o inOrder) difference(a, b complex128) complex128 {
	return o.sum(a, -b)
}

func (o inOrder) product(a, b complex128) complex128 {
	return o.kept(productByParts(a, b))
}

func (o inOrder) quotient(a, b complex128) complex128 {
	if b == 0 {
		panic(failedOperation(impl.ErrState))
	}
	return o.kept(quotientByParts(a, b))
}

func (o inOrder) size(z complex128) float64 {
	return real(o.sum(complex(max(real(z), -real(z)), 0), complex(max(imag(z), -imag(z)), 0)))
}

func (o inOrder) value(p []complex128, z complex128) complex128 {
	value := p[len(p)-1]
	for k := len(p) - 2; k >= 0; k-- {
		value = o.sum(o.product(value, z), p[k])
	}
	return value
}

func (o inOrder) slope(p []complex128, z complex128) complex128 {
	slope := o.product(complex(float64(len(p)-1), 0), p[len(p)-1])
	for k := len(p) - 2; k >= 1; k-- {
		slope = o.sum(o.product(slope, z), o.product(complex(float64(k), 0), p[k]))
	}
	return slope
}

func (o inOrder) weierstrass(p, list []complex128, i int) complex128 {
	value := o.value(p, list[i])
	product := p[len(p)-1]
	for j := range list {
		if j != i {
			product = o.product(product, o.difference(list[i], list[j]))
		}
	}
	return o.quotient(value, product)
}

func (o inOrder) ehrlich(p, list []complex128, i int) complex128 {
	value := o.value(p, list[i])
	if value == 0 {
		return 0
	}
	q := o.quotient(value, o.slope(p, list[i]))
	s := complex128(0)
	for j := range list {
		if j != i {
			s = o.sum(s, o.quotient(1, o.difference(list[i], list[j])))
		}
	}
	return o.quotient(q, o.difference(1, o.product(q, s)))
}

func (o inOrder) correction(p, list []complex128, kind int64, i int) complex128 {
	if kind == impl.KindEhrlich {
		return o.ehrlich(p, list, i)
	}
	return o.weierstrass(p, list, i)
}

func (o inOrder) step(p, list []complex128, kind int64, turn bool) ([]complex128, float64) {
	points, corrections, move := slices.Clone(list), []complex128{}, 0.0
	for i := range list {
		seen := list
		if turn {
			seen = points
		}
		corrections = append(corrections, o.correction(p, seen, kind, i))
		points[i] = o.difference(list[i], corrections[i])
	}
	for _, c := range corrections {
		move = max(move, o.size(c))
	}
	return points, move
}

func (o inOrder) run(p, list []complex128, kind int64, turn bool, bound float64, most int64) impl.Run {
	run := impl.Run{Points: list}
	for run.Steps < most && !run.Still {
		run.Points, run.Last = o.step(p, run.Points, kind, turn)
		run.Steps++
		run.Still = run.Last <= bound
	}
	return run
}

// togetherWidth has the functions of chapter 7 for one width, and what they should do.
type togetherWidth struct {
	inOrder
	name             string
	callCorrectionAt func(p, list []complex128, kind, i int64) (complex128, int64)
	callStep         func(p, list []complex128, kind int64, turn bool) ([]complex128, float64, int64)
	callRun          func(p, list []complex128, kind int64, turn bool, bound float64, most int64) (impl.Run, int64)
}

func wideRun(run impl.NarrowRun) impl.Run {
	return impl.Run{Points: wideList(run.Points), Steps: run.Steps, Last: float64(run.Last), Still: run.Still}
}

var wideWidth = togetherWidth{inOrder{}, "wide ", impl.CorrectionAt, impl.StepTogether, impl.RunTogether}

var narrowWidth = togetherWidth{
	inOrder{isNarrow: true},
	"narrow ",
	func(p, list []complex128, kind, i int64) (complex128, int64) {
		c, code := impl.NarrowCorrectionAt(narrowList(p), narrowList(list), kind, i)
		return complex128(c), code
	},
	func(p, list []complex128, kind int64, turn bool) ([]complex128, float64, int64) {
		points, move, code := impl.NarrowStepTogether(narrowList(p), narrowList(list), kind, turn)
		return wideList(points), float64(move), code
	},
	func(p, list []complex128, kind int64, turn bool, bound float64, most int64) (impl.Run, int64) {
		run, code := impl.NarrowRunTogether(narrowList(p), narrowList(list), kind, turn, float32(bound), most)
		return wideRun(run), code
	},
}

var bothWidths = []togetherWidth{wideWidth, narrowWidth}

var bothKinds = []int64{impl.KindWeierstrass, impl.KindEhrlich}

var bothTurns = []bool{false, true}

// checkCorrection compares a correction with the one that is wanted, or with 0 if a code is.
func (w togetherWidth) checkCorrection(t *testing.T, p, list []complex128, kind, i int64, want complex128, wantCode int64) {
	t.Helper()
	c, code := w.callCorrectionAt(p, list, kind, i)
	checkWide(t, fmt.Sprintf("%scorrection(%v, %v, %d, %d)", w.name, p, list, kind, i), c, code, want, wantCode)
}

// checkStep compares a step with the one that is wanted, or with none if a code is.
func (w togetherWidth) checkStep(t *testing.T, p, list []complex128, kind int64, turn bool, want []complex128, wantMove float64, wantCode int64) {
	t.Helper()
	name := fmt.Sprintf("%sstep(%v, %v, %d, %v)", w.name, p, list, kind, turn)
	points, move, code := w.callStep(p, list, kind, turn)
	checkCoefficients(t, name, points, code, want, wantCode)
	checkFloat(t, name, move, code, wantMove, wantCode)
}

// checkRun compares a run with the one that is wanted, or with none if a code is.
func (w togetherWidth) checkRun(t *testing.T, p, list []complex128, kind int64, turn bool, bound float64, most int64, want impl.Run, wantCode int64) {
	t.Helper()
	run, code := w.callRun(p, list, kind, turn, bound, most)
	name := fmt.Sprintf("%srun(%v, %v, %d, %v, %g, %d)", w.name, p, list, kind, turn, bound, most)
	checkSameRun(t, name, run, code, want, wantCode)
}

func checkSameRun(t *testing.T, name string, run impl.Run, code int64, want impl.Run, wantCode int64) {
	t.Helper()
	if wantCode != impl.ErrNone {
		want = impl.Run{}
	}
	isSame := slices.EqualFunc(run.Points, want.Points, sameWide) && sameFloat(run.Last, want.Last)
	if !isSame || run.Steps != want.Steps || run.Still != want.Still || code != wantCode {
		t.Errorf("%s = %v, %d, want %v, %d", name, run, code, want, wantCode)
	}
}

// checkAllInOrder compares the corrections of all points, and steps of both kinds, at once and in
// turn, with what the document writes, operation by operation. It returns the codes of the steps.
func (w togetherWidth) checkAllInOrder(t *testing.T, p, list []complex128) []int64 {
	t.Helper()
	var codes []int64
	for _, kind := range bothKinds {
		for i := range list {
			var want complex128
			code := codeInOrder(func() { want = w.correction(p, list, kind, i) })
			w.checkCorrection(t, p, list, kind, int64(i), want, code)
		}
		for _, turn := range bothTurns {
			var want []complex128
			var move float64
			code := codeInOrder(func() { want, move = w.step(p, list, kind, turn) })
			w.checkStep(t, p, list, kind, turn, want, move, code)
			codes = append(codes, code)
		}
	}
	return codes
}

// anyTogether gives a polynomial and as many points as its degree tells, of one of several kinds:
// points near the roots or at some of them, on a circle, equal or nearly so, near the ends of floats,
// or any, with the exponents of one width.
func (w togetherWidth) anyTogether(r *rand.Rand) ([]complex128, []complex128) {
	for {
		p, list := w.anyListsTogether(r)
		for n := range p {
			p[n] = w.narrowed(p[n])
		}
		for n := range list {
			list[n] = w.narrowed(list[n])
		}
		isBad := func(z complex128) bool { return codeOf(z) != impl.ErrNone }
		if p[len(p)-1] != 0 && !slices.ContainsFunc(p, isBad) && !slices.ContainsFunc(list, isBad) {
			return p, list
		}
	}
}

func (w togetherWidth) anyListsTogether(r *rand.Rand) ([]complex128, []complex128) {
	least, most := -1073, 1023
	if w.isNarrow {
		least, most = -148, 127
	}
	degree := 1 + r.IntN(12)
	switch r.IntN(9) {
	case 0, 1:
		return pointsNearRoots(r, degree)
	case 2:
		p := mediumPolynomial(r)
		list, _ := startingPointsByParts(p)
		return p, list
	case 3:
		return spreadNumbers(r, degree+1, -20, 20), spreadNumbers(r, degree, -10, 10)
	case 4:
		return spreadNumbers(r, degree+1, least, most), spreadNumbers(r, degree, least/degree, most/degree)
	case 5:
		return spreadNumbers(r, degree+1, most-50, most), spreadNumbers(r, degree, -20, 3)
	case 6:
		return spreadNumbers(r, degree+1, least, least+80), spreadNumbers(r, degree, -20, 20)
	case 7:
		p := anyNumbers(r, degree+1)
		return p, wholeNumbers(r, degree)
	default:
		return anyNumbers(r, degree+1), anyNumbers(r, degree)
	}
}

// pointsNearRoots gives a polynomial of small whole roots, and points most of which are near to them:
// some are at them, and some are equal.
func pointsNearRoots(r *rand.Rand, degree int) ([]complex128, []complex128) {
	list := differentRoots(r, degree)
	p, _ := rootsByParts(list)
	for i := range list {
		switch r.IntN(6) {
		case 0:
		case 1:
			if r.IntN(4) == 0 {
				list[i] = list[r.IntN(degree)]
			}
		default:
			list[i] += spreadNumbers(r, 1, -30, 0)[0]
		}
	}
	return p, list
}

// wholeNumbers gives small whole numbers, with both zeros.
func wholeNumbers(r *rand.Rand, count int) []complex128 {
	var list []complex128
	for range count {
		z := complex(float64(r.IntN(7)-3), float64(r.IntN(5)-2))
		list = append(list, []complex128{z, -z}[r.IntN(2)])
	}
	return list
}

// top is the greatest power of two of a width, and least the least one.
func (w togetherWidth) top() float64 {
	if w.isNarrow {
		return 0x1p127
	}
	return 0x1p1023
}

func (w togetherWidth) least() float64 {
	if w.isNarrow {
		return float64(tinyNarrow)
	}
	return tiny
}
