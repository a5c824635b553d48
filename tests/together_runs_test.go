package tests

import (
	"fmt"
	"math"
	"slices"
	"testing"

	"loop.example/g01156/impl"
)

// halvings are runs that halve both points in each step, without rounding: those of Weierstrass at
// once for x^2.
func halvings(bound float64, most int64) (p, list []complex128, want impl.Run) {
	want = impl.Run{Points: realList(1, -1)}
	for want.Steps < most && !want.Still {
		want.Last = real(want.Points[0]) / 2
		want.Points = realList(want.Last, -want.Last)
		want.Steps++
		want.Still = want.Last <= bound
	}
	return realList(0, 0, 1), realList(1, -1), want
}

func TestRuns(t *testing.T) {
	for _, w := range bothWidths {
		for _, bound := range []float64{0, negative, w.least(), 0x1p-60, 0x1p-5, 0.03, 0.25, 0.5, 1, 7, w.top()} {
			for _, most := range []int64{0, 1, 2, 4, 5, 6, 50, 70} {
				p, list, want := halvings(bound, most)
				w.checkRun(t, p, list, impl.KindWeierstrass, false, bound, most, want, impl.ErrNone)
			}
		}
		// A move that equals the float, and a float that is just less.
		double := realList(0, 0, 1)
		w.checkRun(t, double, realList(1, -1), impl.KindWeierstrass, false, 0x1p-5, 5, impl.Run{Points: realList(0x1p-5, -0x1p-5), Steps: 5, Last: 0x1p-5, Still: true}, impl.ErrNone)
		below := 0x1p-5 - 0x1p-29
		w.checkRun(t, double, realList(1, -1), impl.KindWeierstrass, false, below, 5, impl.Run{Points: realList(0x1p-5, -0x1p-5), Steps: 5, Last: 0x1p-5}, impl.ErrNone)
		w.checkRun(t, double, realList(1, -1), impl.KindWeierstrass, false, below, 6, impl.Run{Points: realList(0x1p-6, -0x1p-6), Steps: 6, Last: 0x1p-6, Still: true}, impl.ErrNone)
		// Points at roots are still after one step, and a float of 0 or -0 is enough.
		for _, bound := range []float64{0, negative, 1} {
			for _, kind := range bothKinds {
				for _, turn := range bothTurns {
					w.checkRun(t, realList(-1, 0, 1), realList(1, -1), kind, turn, bound, impl.MaxSteps, impl.Run{Points: realList(1, -1), Steps: 1, Still: true}, impl.ErrNone)
					w.checkRun(t, realList(-5, 1), realList(0), kind, turn, bound, 1, impl.Run{Points: realList(5), Steps: 1, Last: 5}, impl.ErrNone)
					w.checkRun(t, realList(-5, 1), realList(0), kind, turn, bound, 2, impl.Run{Points: realList(5), Steps: 2, Still: true}, impl.ErrNone)
				}
			}
		}
	}
}

// Without steps, nothing is divided, and nothing is too large.
func TestRunsWithoutSteps(t *testing.T) {
	for _, w := range bothWidths {
		top := w.top()
		for _, list := range [][]complex128{realList(2, -2), realList(1, 1), realList(top, top), {complex(negative, negative), complex(0, negative)}} {
			for _, kind := range bothKinds {
				for _, bound := range []float64{0, negative, 1, top} {
					w.checkRun(t, realList(-1, 0, 1), list, kind, bound == 1, bound, 0, impl.Run{Points: list}, impl.ErrNone)
				}
			}
		}
	}
}

func TestRunsOfMaxSteps(t *testing.T) {
	p, list, want := halvings(0, impl.MaxSteps)
	if want.Steps != 200 || want.Last != 0x1p-200 || want.Still {
		t.Fatal("200 halvings are wanted", want)
	}
	wideWidth.checkRun(t, p, list, impl.KindWeierstrass, false, 0, impl.MaxSteps, want, impl.ErrNone)
	p, list, want = halvings(0x1p-200, impl.MaxSteps)
	wideWidth.checkRun(t, p, list, impl.KindWeierstrass, false, 0x1p-200, impl.MaxSteps, want, impl.ErrNone)
	// The square of 2^-75 is 0 as a narrow number, and so is the correction.
	narrowWidth.checkRun(t, p, list, impl.KindWeierstrass, false, 0, impl.MaxSteps, impl.Run{Points: realList(0x1p-75, -0x1p-75), Steps: 76, Still: true}, impl.ErrNone)
	narrowWidth.checkRun(t, p, list, impl.KindWeierstrass, false, 0, 75, impl.Run{Points: realList(0x1p-75, -0x1p-75), Steps: 75, Last: 0x1p-75}, impl.ErrNone)
	// Points on the real line do not come to the roots i and -i.
	for _, w := range bothWidths {
		for _, most := range []int64{199, impl.MaxSteps} {
			run, code := w.callRun(realList(1, 0, 1), realList(3, -1), impl.KindWeierstrass, false, 0, most)
			if run.Steps != most || run.Still || run.Last < 0.01 || code != impl.ErrNone {
				t.Errorf("%srun of at most %d steps: %v, %d", w.name, most, run, code)
			}
		}
		for _, most := range []int64{-1, 201, 202, 1000, math.MaxInt64, math.MinInt64, 1 << 32} {
			w.checkRun(t, realList(-1, 0, 1), realList(1, -1), impl.KindEhrlich, true, 0, most, impl.Run{}, impl.ErrRange)
		}
	}
}

// A step that fails ends a run without a result, if it is made.
func TestRunsThatFail(t *testing.T) {
	for _, w := range bothWidths {
		// Points come to 1 and -1, and then both to 0.
		circle := realList(1, 0, 1)
		for most, want := range map[int64]impl.Run{
			0: {Points: realList(3, -2)},
			1: {Points: realList(1, -1), Steps: 1, Last: 2},
			2: {Points: realList(0, 0), Steps: 2, Last: 1},
		} {
			w.checkRun(t, circle, realList(3, -2), impl.KindWeierstrass, false, 0, most, want, impl.ErrNone)
		}
		for _, most := range []int64{3, 4, impl.MaxSteps} {
			w.checkRun(t, circle, realList(3, -2), impl.KindWeierstrass, false, 0, most, impl.Run{}, impl.ErrState)
			w.checkRun(t, circle, realList(3, -2), impl.KindWeierstrass, false, 0.5, most, impl.Run{}, impl.ErrState)
			w.checkRun(t, circle, realList(3, -2), impl.KindWeierstrass, false, 1, most, impl.Run{Points: realList(0, 0), Steps: 2, Last: 1, Still: true}, impl.ErrNone)
		}
		// A point far away, of which the second value is too large.
		far := realList(w.top()/4, 0x1p-10*w.top(), 0x1p-20*w.top())
		want := impl.Run{Steps: 1}
		code := codeInOrder(func() { want = w.run(far, realList(0, 0x1p-30), impl.KindWeierstrass, false, 0, 1) })
		w.checkRun(t, far, realList(0, 0x1p-30), impl.KindWeierstrass, false, 0, 1, want, code)
		w.checkRun(t, far, realList(0, 0x1p-30), impl.KindWeierstrass, false, 0, 2, impl.Run{}, impl.ErrLimit)
		if code != impl.ErrNone || want.Last < 0x1p40 {
			t.Errorf("%sfirst step: %v, %d", w.name, want, code)
		}
	}
}

// Operation by operation, with all codes.
func TestRunsInOrder(t *testing.T) {
	for seed, w := range bothWidths {
		r := newRandom(241 + uint64(seed))
		counts, still := map[int64]int{}, 0
		for range 200 {
			p, list := w.anyTogether(r)
			kind, turn, most := int64(r.IntN(2)), r.IntN(2) == 0, int64(r.IntN(9))
			bound := float64(float32(math.Ldexp(r.Float64(), -r.IntN(24))))
			var want impl.Run
			code := codeInOrder(func() { want = w.run(p, list, kind, turn, bound, most) })
			w.checkRun(t, p, list, kind, turn, bound, most, want, code)
			counts[code]++
			if want.Still && code == impl.ErrNone {
				still++
			}
		}
		if counts[impl.ErrNone] < 100 || counts[impl.ErrLimit] < 20 || still < 20 {
			t.Errorf("%sruns have the codes %v, and %d are still", w.name, counts, still)
		}
	}
}

// bothByParts are the runs of both widths.
func bothByParts(p []complex128, kind int64, turn bool, most int64) (impl.Run, impl.Run, int64) {
	var narrow, wide impl.Run
	starting, code := startingPointsByParts(p)
	if code != impl.ErrNone {
		return impl.Run{}, impl.Run{}, code
	}
	points, code := narrowPointsByParts(starting)
	if code != impl.ErrNone {
		return impl.Run{}, impl.Run{}, code
	}
	code = codeInOrder(func() {
		narrow = narrowWidth.run(p, wideList(points), kind, turn, float64(float32(0.0001)), most)
		wide = wideWidth.run(p, narrow.Points, kind, turn, 1e-11, most)
	})
	return narrow, wide, code
}

func checkBoth(t *testing.T, p []complex128, kind int64, turn bool, most int64, wantNarrow, wantWide impl.Run, wantCode int64) {
	t.Helper()
	narrow, wide, code := impl.RunBothWidths(narrowList(p), kind, turn, most)
	name := fmt.Sprintf("RunBothWidths(%v, %d, %v, %d)", p, kind, turn, most)
	checkSameRun(t, "narrow run of "+name, wideRun(narrow), code, wantNarrow, wantCode)
	checkSameRun(t, "wide run of "+name, wide, code, wantWide, wantCode)
}

func TestRunBothWidths(t *testing.T) {
	line := []complex128{3, 1}
	for _, kind := range bothKinds {
		for _, turn := range bothTurns {
			// Degree 1: from the point 0 to the root, and once more.
			root, start := realList(-3), realList(0)
			checkBoth(t, line, kind, turn, 0, impl.Run{Points: start}, impl.Run{Points: start}, impl.ErrNone)
			checkBoth(t, line, kind, turn, 1, impl.Run{Points: root, Steps: 1, Last: 3}, impl.Run{Points: root, Steps: 1, Still: true}, impl.ErrNone)
			checkBoth(t, line, kind, turn, 2, impl.Run{Points: root, Steps: 2, Still: true}, impl.Run{Points: root, Steps: 1, Still: true}, impl.ErrNone)
			checkBoth(t, line, kind, turn, impl.MaxSteps, impl.Run{Points: root, Steps: 2, Still: true}, impl.Run{Points: root, Steps: 1, Still: true}, impl.ErrNone)
			// Without steps, the points are the starting points, made narrow.
			starting := []complex128{2, complex(float64(float32(1.6)), float64(float32(1.2)))}
			checkBoth(t, []complex128{2, 0, 1}, kind, turn, 0, impl.Run{Points: starting}, impl.Run{Points: starting}, impl.ErrNone)
			checkInOrder(t, []complex128{2, 0, 1}, kind, turn, impl.MaxSteps)
			// The root of a narrow polynomial is not a narrow number.
			checkInOrder(t, narrowedList([]complex128{-0.1, 0.3}), kind, turn, impl.MaxSteps)
		}
	}
}

func narrowedList(list []complex128) []complex128 {
	return wideList(narrowList(list))
}

// checkInOrder compares a run of both widths with what the document writes, operation by operation,
// and returns whether both are still, and the code.
func checkInOrder(t *testing.T, p []complex128, kind int64, turn bool, most int64) (bool, bool, int64) {
	t.Helper()
	narrow, wide, code := bothByParts(p, kind, turn, most)
	checkBoth(t, p, kind, turn, most, narrow, wide, code)
	return narrow.Still, wide.Still, code
}

func TestRunBothWidthsInOrder(t *testing.T) {
	r := newRandom(245)
	all, none := 0, 0
	for range 60 {
		roots := slices.Concat(differentRoots(r, 1+r.IntN(4)), wholeNumbers(r, r.IntN(3)))
		p, _ := rootsByParts(roots)
		narrow, wide, code := checkInOrder(t, narrowedList(p), int64(r.IntN(2)), r.IntN(2) == 0, int64(r.IntN(60)))
		if narrow && wide && code == impl.ErrNone {
			all++
		}
		if !narrow && code == impl.ErrNone {
			none++
		}
	}
	if all < 10 || none < 10 {
		t.Errorf("just %d pairs of runs are still, and %d narrow ones are not", all, none)
	}
	checkInOrder(t, ones(13), impl.KindEhrlich, true, 30)
	checkInOrder(t, with(ones(13), 0, -1), impl.KindWeierstrass, false, 60)
}

// Runs of either width that fail leave no result of the other one.
func TestRunBothWidthsFails(t *testing.T) {
	state := []complex128{-2816 - 7488i, 336 - 1152i, 48 - 36i, 1}
	wideState := []complex128{161 + 240i, -208 - 188i, 90 + 48i, -16 - 4i, 1}
	for _, c := range []struct {
		p    []complex128
		kind int64
		turn bool
		most int64
		code int64
	}{
		// Starting points that are too large for the narrow width, also without steps.
		{[]complex128{-3e38, 1}, impl.KindEhrlich, false, 10, impl.ErrLimit},
		{[]complex128{-3e38, 1}, impl.KindWeierstrass, true, 0, impl.ErrLimit},
		{[]complex128{1, -1e-39}, impl.KindWeierstrass, true, 0, impl.ErrLimit},
		{[]complex128{1, 1e-39}, impl.KindWeierstrass, true, 0, impl.ErrNone},
		{[]complex128{3e38, 1}, impl.KindEhrlich, true, 10, impl.ErrNone},
		// The narrow run fails, and the wide one does from the points of the narrow one.
		{[]complex128{1e20, 0, 1e20, 1}, impl.KindWeierstrass, true, 1, impl.ErrLimit},
		{[]complex128{1e20, 0, 1e20, 1}, impl.KindWeierstrass, true, 0, impl.ErrNone},
		{state, impl.KindEhrlich, false, 200, impl.ErrState},
		{wideState, impl.KindEhrlich, true, 31, impl.ErrState},
	} {
		c.p = narrowedList(c.p)
		if _, _, code := checkInOrder(t, c.p, c.kind, c.turn, c.most); code != c.code {
			t.Errorf("RunBothWidths(%v, %d, %v, %d) should have the code %d, not %d", c.p, c.kind, c.turn, c.most, c.code, code)
		}
	}
	// Of these, just the wide run fails.
	starting, _ := impl.StartingPoints(wideState)
	points, _ := impl.NarrowPoints(starting)
	_, code := impl.NarrowRunTogether(narrowList(wideState), points, impl.KindEhrlich, true, 0.0001, 31)
	if code != impl.ErrNone {
		t.Errorf("the narrow run has the code %d", code)
	}
}
