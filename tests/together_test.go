package tests

import (
	"math"
	"testing"

	"loop.example/g01156/impl"
)

// answer is a number, or a code in its place.
type answer struct {
	z    complex128
	code int64
}

func is(z complex128) answer {
	return answer{z, impl.ErrNone}
}

func fails(code int64) answer {
	return answer{0, code}
}

// correctionCase has both corrections of a point.
type correctionCase struct {
	p, list              []complex128
	i                    int64
	weierstrass, ehrlich answer
}

func (w togetherWidth) checkCorrections(t *testing.T, cases []correctionCase) {
	t.Helper()
	for _, c := range cases {
		w.checkCorrection(t, c.p, c.list, impl.KindWeierstrass, c.i, w.narrowed(c.weierstrass.z), c.weierstrass.code)
		w.checkCorrection(t, c.p, c.list, impl.KindEhrlich, c.i, w.narrowed(c.ehrlich.z), c.ehrlich.code)
	}
}

// foursOfRoots has the roots -1, i, -i, 2, -2, 2i, -2i and 1 + i, 1 - i, -1 + i, -1 - i, besides 1.
func foursOfRoots() ([]complex128, []complex128) {
	p := []complex128{64, 0, 0, 0, -52, 0, 0, 0, -13, 0, 0, 0, 1}
	return p, []complex128{1, -1, 1i, -1i, 2, -2, 2i, -2i, 1 + 1i, 1 - 1i, -1 + 1i, -1 - 1i}
}

func TestCorrections(t *testing.T) {
	square, twelve := []complex128{-1, 0, 1}, make([]complex128, 13)
	twelve[0], twelve[12] = -1, 1
	fours, roots := foursOfRoots()
	cases := []correctionCase{
		{square, []complex128{2, -2}, 0, is(0.75), is(12.0 / 13)},
		{square, []complex128{2, -2}, 1, is(complex(-0.75, negative)), is(-12.0 / 13)},
		{square, []complex128{0, 2}, 1, is(1.5), is(1.2)},
		// Degrees 1 and 12.
		{[]complex128{3, 2}, []complex128{1}, 0, is(2.5), is(2.5)},
		{[]complex128{1i, 1}, []complex128{0}, 0, is(1i), is(1i)},
		{[]complex128{5, -4i}, []complex128{2 - 1i}, 0, is(2 + 0.25i), is(2 + 0.25i)},
		{fours, roots, 0, is(complex(negative, negative)), is(0)},
		{fours, with(roots, 11, roots[10]), 10, fails(impl.ErrState), is(0)},
		{twelve, []complex128{0, 1, 1, 2, 3, 4, 5, 6, 7, 8, 9, 10}, 0, is(complex(1/3628800.0, negative)), fails(impl.ErrState)},
		// The coefficient a(n) is the first factor of the product, and in the slope.
		{[]complex128{-2, 0, 2}, []complex128{2, -2}, 0, is(0.75), is(12.0 / 13)},
		{[]complex128{-1i, 0, 1i}, []complex128{2, -2}, 0, is(0.75), is(12.0 / 13)},
		{[]complex128{1, 1, 0.5}, []complex128{2, 1}, 0, is(10), is(complex(-2.5, negative))},
		// A value of 0, also where the slope is 0, or a number of it would be too large.
		{square, []complex128{1, -2}, 0, is(0), is(0)},
		{square, []complex128{2, -1}, 1, is(complex(negative, negative)), is(0)},
		{[]complex128{0, 0, 1}, []complex128{0, 2}, 0, is(complex(negative, negative)), is(0)},
		{[]complex128{1, 2, 1}, []complex128{-1, 1}, 0, is(complex(negative, negative)), is(0)},
		// Equal points with a value of 0 and with another one, and equal points beside another one.
		{square, []complex128{1, 1}, 0, fails(impl.ErrState), is(0)},
		{square, []complex128{1, 1}, 1, fails(impl.ErrState), is(0)},
		{square, []complex128{2, 2}, 0, fails(impl.ErrState), fails(impl.ErrState)},
		{square, []complex128{2, 2}, 1, fails(impl.ErrState), fails(impl.ErrState)},
		{square, []complex128{complex(0, negative), complex(negative, 0)}, 0, fails(impl.ErrState), fails(impl.ErrState)},
		{[]complex128{0, 0, 0, 1}, []complex128{2, 1, 1}, 2, fails(impl.ErrState), fails(impl.ErrState)},
		{[]complex128{0, 0, 0, 4}, []complex128{3, -1, -1}, 0, is(1.6875), is(2)},
		// A slope of 0 at a point with another value.
		{square, []complex128{0, 2}, 0, is(complex(0.5, negative)), fails(impl.ErrState)},
		{[]complex128{1, 0, 1}, []complex128{0, 2}, 0, is(complex(-0.5, negative)), fails(impl.ErrState)},
		{[]complex128{1, 0, 0, 1}, []complex128{complex(negative, negative), 1, 2}, 0, is(0.5), fails(impl.ErrState)},
		// A product of q and s of 1, and products that have just one part of it.
		{[]complex128{0, 0, 1}, []complex128{2, 1}, 0, is(4), fails(impl.ErrState)},
		{[]complex128{0, 0, 1}, []complex128{2, 1}, 1, is(complex(-1, negative)), is(1.0 / 3)},
		{[]complex128{0, 0, 1}, []complex128{2i, 1i}, 0, is(4i), fails(impl.ErrState)},
		{[]complex128{0, 0, 1}, []complex128{2, 1 + 1i}, 0, is(2 + 2i), is(1 + 1i)},
	}
	for _, w := range bothWidths {
		w.checkCorrections(t, cases)
	}
}

// Corrections have the signs of 0 of their quotients, but that of Ehrlich at a value of 0 has none.
func TestSignsOfZeroInCorrections(t *testing.T) {
	minus := complex(negative, negative)
	for _, w := range bothWidths {
		w.checkCorrections(t, []correctionCase{
			{[]complex128{0, 1}, []complex128{minus}, 0, is(0), is(0)},
			{[]complex128{minus, 1}, []complex128{minus}, 0, is(complex(0, negative)), is(0)},
			{[]complex128{0, -1}, []complex128{0}, 0, is(minus), is(0)},
			{[]complex128{0, 1i}, []complex128{0}, 0, is(0), is(0)},
			{[]complex128{0, -1i}, []complex128{0}, 0, is(complex(negative, 0)), is(0)},
			{[]complex128{-1, 0, 1}, []complex128{-1, 1}, 0, is(minus), is(0)},
			{[]complex128{-1, 0, 1}, []complex128{-1, -2}, 0, is(0), is(0)},
			{[]complex128{2, 1}, []complex128{0}, 0, is(2), is(2)},
			{[]complex128{2, -1}, []complex128{0}, 0, is(complex(-2, negative)), is(complex(-2, 0))},
			// The slope has products of complex numbers: -0 - i becomes 0 - i, when multiplied by 1.
			{[]complex128{complex(-1, negative), complex(negative, -1)}, []complex128{0}, 0, is(complex(0, -1)), is(complex(negative, -1))},
		})
		w.checkStep(t, []complex128{0, 1}, []complex128{minus}, impl.KindWeierstrass, false, []complex128{minus}, 0, impl.ErrNone)
		w.checkStep(t, []complex128{minus, 1}, []complex128{minus}, impl.KindWeierstrass, true, []complex128{complex(negative, 0)}, 0, impl.ErrNone)
		w.checkStep(t, []complex128{minus, 1}, []complex128{minus}, impl.KindEhrlich, true, []complex128{minus}, 0, impl.ErrNone)
		w.checkStep(t, []complex128{minus, 1}, []complex128{minus}, impl.KindEhrlich, false, []complex128{minus}, 0, impl.ErrNone)
		w.checkStep(t, []complex128{-3, 1}, []complex128{3}, impl.KindWeierstrass, false, []complex128{3}, 0, impl.ErrNone)
		w.checkStep(t, []complex128{-3, 1}, []complex128{complex(3, negative)}, impl.KindEhrlich, false, []complex128{complex(3, negative)}, 0, impl.ErrNone)
	}
}

// stepCase has the points after a step at once and after one in turn, and their moves.
type stepCase struct {
	p, list, once, turn []complex128
	onceMove, turnMove  float64
}

func TestSteps(t *testing.T) {
	square, double := []complex128{-1, 0, 1}, []complex128{0, 0, 1}
	third := 1.0 / 3
	for _, w := range bothWidths {
		for kind, cases := range map[int64][]stepCase{
			impl.KindWeierstrass: {
				{square, []complex128{2, -2}, []complex128{1.25, -1.25}, []complex128{1.25, complex(-14.0/13, 0)}, 0.75, 12.0 / 13},
				{double, []complex128{1, -1}, []complex128{0.5, -0.5}, []complex128{0.5, complex(-third, 0)}, 0.5, 2 * third},
				{double, []complex128{1i, -1i}, []complex128{0.5i, -0.5i}, []complex128{0.5i, complex(0, -third)}, 0.5, 2 * third},
				// The greatest size of all is the move, and sizes are sums of both parts.
				{double, []complex128{8, 4}, []complex128{-8, complex(8, 0)}, []complex128{-8, complex(4-16.0/12, 0)}, 16, 16},
				{[]complex128{0, 1}, []complex128{3 - 4i}, []complex128{0}, []complex128{0}, 7, 7},
				{[]complex128{-5, 1}, []complex128{0}, []complex128{5}, []complex128{5}, 5, 5},
				// Points at roots stay, with a move of 0.
				{square, []complex128{1, -1}, []complex128{1, -1}, []complex128{1, -1}, 0, 0},
				{square, []complex128{-1, 1}, []complex128{-1, 1}, []complex128{-1, 1}, 0, 0},
			},
			impl.KindEhrlich: {
				{double, []complex128{2, -2}, []complex128{complex(2*third, 0), complex(-2*third, 0)}, []complex128{complex(2*third, 0), -0.4}, 4 * third, 1.6},
				{square, []complex128{1, -2}, []complex128{1, -1}, []complex128{1, -1}, 1, 1},
				{[]complex128{0, 1}, []complex128{3 - 4i}, []complex128{0}, []complex128{0}, 7, 7},
				// Equal points with a value of 0 stay.
				{square, []complex128{1, 1}, []complex128{1, 1}, []complex128{1, 1}, 0, 0},
				{double, []complex128{0, 0}, []complex128{0, 0}, []complex128{0, 0}, 0, 0},
			},
		} {
			for _, c := range cases {
				w.checkStepNear(t, c.p, c.list, kind, false, c.once, c.onceMove)
				w.checkStepNear(t, c.p, c.list, kind, true, c.turn, c.turnMove)
			}
		}
	}
}

// checkStepNear compares a step with points and a move that are told without its roundings.
func (w togetherWidth) checkStepNear(t *testing.T, p, list []complex128, kind int64, turn bool, want []complex128, wantMove float64) {
	t.Helper()
	most := 0x1p-51
	if w.isNarrow {
		most = 0x1p-22
	}
	points, move, code := w.callStep(p, list, kind, turn)
	isNear := len(points) == len(want) && math.Abs(move-wantMove) <= most*wantMove && !math.Signbit(move)
	for i := range min(len(points), len(want)) {
		isNear = isNear && sizeOf(points[i]-want[i]) <= most*sizeOf(want[i])
		isNear = isNear && math.Signbit(real(points[i])) == math.Signbit(real(want[i])) && math.Signbit(imag(points[i])) == math.Signbit(imag(want[i]))
	}
	if !isNear || code != impl.ErrNone {
		t.Errorf("%sstep(%v, %v, %d, %v) = %v, %g, %d, want %v, %g", w.name, p, list, kind, turn, points, move, code, want, wantMove)
	}
}

// In turn, a point may come to where the next one is, or to where its product of q and s is 1.
func TestStepsInTurnUseChangedPoints(t *testing.T) {
	double := []complex128{0, 0, 1}
	for _, w := range bothWidths {
		w.checkStep(t, double, []complex128{1, 2}, impl.KindWeierstrass, false, []complex128{2, -2}, 4, impl.ErrNone)
		w.checkStep(t, double, []complex128{1, 2}, impl.KindWeierstrass, true, nil, 0, impl.ErrState)
		w.checkStep(t, double, []complex128{2, 3}, impl.KindEhrlich, false, []complex128{1.5, 6}, 3, impl.ErrNone)
		w.checkStep(t, double, []complex128{2, 3}, impl.KindEhrlich, true, nil, 0, impl.ErrState)
	}
}

// Operation by operation, with all codes.
func TestCorrectionsAndStepsInOrder(t *testing.T) {
	for seed, w := range bothWidths {
		r := newRandom(231 + uint64(seed))
		counts := map[int64]int{}
		for range 1000 {
			p, list := w.anyTogether(r)
			for _, code := range w.checkAllInOrder(t, p, list) {
				counts[code]++
			}
			if t.Failed() {
				return
			}
		}
		if counts[impl.ErrNone] < 2000 || counts[impl.ErrLimit] < 400 || counts[impl.ErrState] < 200 {
			t.Errorf("%ssteps have the codes %v", w.name, counts)
		}
	}
}

// Products and sums are taken in ascending order of the other points: in descending order they would
// often have other last bits.
func TestOrderOfTheOtherPoints(t *testing.T) {
	for seed, w := range bothWidths {
		r := newRandom(233 + uint64(seed))
		products, sums := 0, 0
		for range 300 {
			p, list := pointsNearRoots(r, 4+r.IntN(4))
			for n := range list {
				list[n] = w.narrowed(list[n] + 0.1)
			}
			other := reversedList(list)
			last := int64(len(list) - 1)
			for kind, count := range map[int64]*int{impl.KindWeierstrass: &products, impl.KindEhrlich: &sums} {
				c, code := w.callCorrectionAt(p, list, kind, 0)
				d, otherCode := w.callCorrectionAt(p, other, kind, last)
				if code == impl.ErrNone && otherCode == impl.ErrNone && c != d {
					*count++
				}
			}
			w.checkAllInOrder(t, p, list)
		}
		if products < 50 || sums < 50 {
			t.Errorf("%sjust %d products and %d sums depend on the order", w.name, products, sums)
		}
	}
}

// The goroutines of a step at once find the same each time.
func TestStepsAtOnceAreTheSameEachTime(t *testing.T) {
	r := newRandom(236)
	for range 20 {
		p, list := pointsNearRoots(r, 12)
		for _, kind := range bothKinds {
			want, wantMove, wantCode := impl.StepTogether(p, list, kind, false)
			for range 50 {
				wideWidth.checkStep(t, p, list, kind, false, want, wantMove, wantCode)
			}
		}
	}
}
