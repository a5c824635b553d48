package tests

import (
	"testing"

	"loop.example/g01156/impl"
)

// realList makes a list of numbers without imaginary parts.
func realList(parts ...float64) []complex128 {
	var list []complex128
	for _, x := range parts {
		list = append(list, complex(x, 0))
	}
	return list
}

// Values and slopes that are not finite, although the correction could be.
func TestLimitsOfValuesAndSlopes(t *testing.T) {
	limit, state := fails(impl.ErrLimit), fails(impl.ErrState)
	for _, w := range bothWidths {
		top, least := w.top(), w.least()
		w.checkCorrections(t, []correctionCase{
			{realList(0, 0, 1), realList(top, 1), 0, limit, limit},
			{realList(0, 0, 1), realList(top, 1), 1, is(complex(-1/top, negative)), is(0.5)},
			{realList(0, 0, 1), realList(top, top), 0, limit, limit},
			// A product, and a sum, of a value.
			{realList(-top, top), realList(2), 0, limit, limit},
			{realList(-top, top), realList(1.5), 0, is(0.5), is(0.5)},
			{realList(top, top), realList(1), 0, limit, limit},
			{[]complex128{complex(0, top), complex(0, top)}, realList(1), 0, limit, limit},
			{[]complex128{complex(0, -top), complex(0, top)}, realList(1.5), 0, is(0.5), is(0.5)},
			// Coefficients k a(k) of slopes, of which none is asked for at a value of 0.
			{realList(1, 0, top), realList(0x1p-10, 0), 0, is(0x1p-10), limit},
			{realList(1, 0, 0.5*top), realList(0x1p-10, 0), 0, is(0x1p-10), is(0x1p-10)},
			{realList(0, 1, top), realList(0, 1), 0, is(complex(negative, negative)), is(0)},
			// Sums and products of slopes.
			{realList(0, top, 0.5*top), realList(1, 0), 0, is(3), limit},
			{realList(1, 0.5*top, 0.25*top), realList(1, -1), 0, is(1.5), is(1.2)},
			{realList(1, 0, -0.5*top, 0.375*top), realList(2, 0, 1), 0, is(4.0 / 3), limit},
			// Values and slopes that become 0.
			{realList(0, 0, least), realList(0.25, -4), 0, is(0), is(0)},
			{realList(1, 0, least), realList(0.25, -4), 0, limit, state},
		})
	}
}

// Differences, products, quotients and sums that are not finite, and divisions by 0: the first one of
// these gives the code.
func TestLimitsAmongTheOtherPoints(t *testing.T) {
	limit, state := fails(impl.ErrLimit), fails(impl.ErrState)
	for _, w := range bothWidths {
		top, least := w.top(), w.least()
		// The value of this at top is 1, and the slope is top.
		flat := realList(1, 0, -1, 1/top)
		w.checkCorrections(t, []correctionCase{
			// Differences, before and behind a product of 0 or a division by 0.
			{realList(1, 0, 1/top), realList(top, -top), 0, limit, limit},
			{realList(1, 0, 1/top), realList(top, 0), 0, is(complex(top, 0)), is(complex(top, 0))},
			{flat, realList(top, top, -top), 0, limit, state},
			{flat, realList(top, -top, top), 0, limit, limit},
			{flat, realList(top, top, 0), 0, state, state},
			// Products of differences.
			{realList(1, 1, 1, top), realList(0, -4, 0), 0, limit, limit},
			{realList(1, 1, 1, top), realList(0, 0, -4), 0, state, limit},
			{realList(1, 1, 1, 0.25*top), realList(0, -8, 0.25), 0, limit, is(8.0 / 39)},
			{realList(1, 1, 1, 0.25*top), realList(0, 0.25, -8), 0, is(complex(-2/top, negative)), is(8.0 / 39)},
			{realList(1, 1, least), realList(0, -0.25), 0, state, is(complex(-1.0/3, negative))},
			// Quotients of 1, and their sum.
			{realList(1, 1, 1), realList(0, least), 0, limit, limit},
			{realList(1, 1, 1, 1), realList(0, least, 0), 0, state, limit},
			{realList(1, 1, 1, 1), realList(0, 0, least), 0, state, state},
			{realList(1, 1, 1, 1), realList(0, -1/top, -1/top), 0, state, limit},
			{realList(1, 1, 1, 1), realList(0, -1/top, 1/top), 0, state, is(1)},
			{realList(1, 1, 1, 1, 1), realList(0, -1/top, -1/top, 0), 0, state, limit},
			{realList(1, 1, 1, 1, 1), realList(0, -1/top, 0, -1/top), 0, state, state},
			// The quotient of value and slope comes before the other points.
			{realList(top, 0x1p-4, 1), realList(0, 0), 0, state, limit},
			{realList(1, 0, 1), realList(0, least), 0, limit, state},
			// The product of q and s, and the quotient at the end.
			{realList(top, 1, 1), realList(0, -0x1p-4), 0, limit, limit},
			{realList(top, 1, 1), realList(0, -4), 0, is(complex(top/4, 0)), is(complex(-4, negative))},
			{realList(top, 1, 1), realList(0, -top*(1+0x1p-20)), 0, is(1 / (1 + 0x1p-20)), limit},
		})
	}
}

// What is used within a quotient may be infinite.
func TestLimitsWithinQuotients(t *testing.T) {
	p := []complex128{1, complex(0x1p1023, 0x1p1023)}
	wideWidth.checkCorrections(t, []correctionCase{{p, []complex128{0}, 0, is(complex(0, negative)), is(complex(0, negative))}})
	p = []complex128{1, complex(0x1p127, 0x1p127)}
	narrowWidth.checkCorrections(t, []correctionCase{{p, []complex128{0}, 0, is(complex(0x1p-128, -0x1p-128)), is(complex(0x1p-128, -0x1p-128))}})
}

// Points after a step, and sizes of corrections, that are not finite.
func TestLimitsOfSteps(t *testing.T) {
	for _, w := range bothWidths {
		top := w.top()
		beyond, start := realList(-top, 0.5), realList(0.5*top)
		corner := complex(top, top)
		w.checkCorrections(t, []correctionCase{
			{beyond, start, 0, is(complex(-1.5*top, 0)), is(complex(-1.5*top, 0))},
			{realList(0, 1), []complex128{corner}, 0, is(corner), is(corner)},
		})
		for _, kind := range bothKinds {
			for _, turn := range bothTurns {
				w.checkStep(t, beyond, start, kind, turn, nil, 0, impl.ErrLimit)
				w.checkStep(t, realList(-0.75*top, 0.5), start, kind, turn, realList(1.5*top), top, impl.ErrNone)
				w.checkStep(t, realList(0, 1), []complex128{corner}, kind, turn, nil, 0, impl.ErrLimit)
				w.checkStep(t, realList(0, 1), []complex128{complex(top, -0.5*top)}, kind, turn, realList(0), 1.5*top, impl.ErrNone)
			}
		}
	}
}

// The corrections are found and taken away one after the other, and the first failure gives the code.
func TestFirstFailureOfAStep(t *testing.T) {
	cube := realList(0, 0, 0, 1)
	for _, w := range bothWidths {
		top := w.top()
		// The point 0.75 top becomes 2.25 top, and the slope at 0 is 0.
		away := realList(1.6875*0x1p-20*top, 0, 0x1p-20/top)
		_, code := w.callCorrectionAt(away, realList(0.75*top, 0), impl.KindEhrlich, 0)
		checkInteger(t, "the code of the correction", code, 0, impl.ErrNone, 0)
		w.checkCorrection(t, away, realList(0.75*top, 0), impl.KindEhrlich, 1, 0, impl.ErrState)
		for _, turn := range bothTurns {
			w.checkStep(t, away, realList(0.75*top, 0), impl.KindEhrlich, turn, nil, 0, impl.ErrLimit)
			w.checkStep(t, away, realList(0, 0.75*top), impl.KindEhrlich, turn, nil, 0, impl.ErrState)
			for _, kind := range bothKinds {
				w.checkStep(t, cube, realList(top, 1, 1), kind, turn, nil, 0, impl.ErrLimit)
				w.checkStep(t, cube, realList(1, 1, top), kind, turn, nil, 0, impl.ErrState)
				w.checkStep(t, cube, realList(1, top, 1), kind, turn, nil, 0, impl.ErrState)
				w.checkStep(t, cube, realList(2, top, top), kind, turn, nil, 0, impl.ErrLimit)
				w.checkStep(t, cube, realList(1, 2, top), kind, turn, nil, 0, impl.ErrLimit)
				w.checkStep(t, cube, realList(3, 1, 1), kind, turn, nil, 0, impl.ErrState)
			}
		}
	}
}

// The move is found when all corrections have been taken away: a size that is not finite comes behind
// a division by 0 for a later point.
func TestMovesComeBehindThePoints(t *testing.T) {
	for _, w := range bothWidths {
		top := w.top()
		point := complex(0.375*top, 0.375*top)
		p := []complex128{complex(0, 0.140625*0x1p-20*top), 0, complex(0x1p-20/top, 0)}
		for _, turn := range bothTurns {
			w.checkStep(t, p, []complex128{point, 0}, impl.KindEhrlich, turn, nil, 0, impl.ErrState)
			w.checkStep(t, p, []complex128{point, complex(0x1p-40*top, 0)}, impl.KindEhrlich, turn, nil, 0, impl.ErrLimit)
		}
		correction, code := w.callCorrectionAt(p, []complex128{point, 0}, impl.KindEhrlich, 0)
		if real(correction) < top || imag(correction) < top || code != impl.ErrNone {
			t.Errorf("%scorrection is %v, %d", w.name, correction, code)
		}
	}
}
