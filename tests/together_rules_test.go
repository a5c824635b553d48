package tests

import (
	"fmt"
	"math"
	"slices"
	"testing"

	"loop.example/g01156/impl"
)

// togetherCall has arguments of all functions of chapter 7. Each function takes those that it has.
type togetherCall struct {
	p, list       []complex128
	kind, i, most int64
	bound         float64
}

// togetherFunction is a function of chapter 7. It returns whether all results are zero values, and
// the code.
type togetherFunction func(c togetherCall, turn bool) (bool, int64)

func isZeroRun(run impl.Run) bool {
	return len(run.Points) == 0 && run.Steps == 0 && sameFloat(run.Last, 0) && !run.Still
}

// togetherFunctions are the functions of one width.
func (w togetherWidth) togetherFunctions() map[string]togetherFunction {
	return map[string]togetherFunction{
		"correction": func(c togetherCall, turn bool) (bool, int64) {
			z, code := w.callCorrectionAt(c.p, c.list, c.kind, c.i)
			return sameWide(z, 0), code
		},
		"step": func(c togetherCall, turn bool) (bool, int64) {
			points, move, code := w.callStep(c.p, c.list, c.kind, turn)
			return len(points) == 0 && sameFloat(move, 0), code
		},
		"run": func(c togetherCall, turn bool) (bool, int64) {
			run, code := w.callRun(c.p, c.list, c.kind, turn, c.bound, c.most)
			return isZeroRun(run), code
		},
	}
}

func callBoth(c togetherCall, turn bool) (bool, int64) {
	narrow, wide, code := impl.RunBothWidths(narrowList(c.p), c.kind, turn, c.most)
	return isZeroRun(wideRun(narrow)) && isZeroRun(wide), code
}

// checkCall checks the code of a call of some functions of both widths, and the zero values beside it.
func checkCall(t *testing.T, c togetherCall, wantCode int64, names ...string) {
	t.Helper()
	for _, turn := range bothTurns {
		for _, w := range bothWidths {
			for name, f := range w.togetherFunctions() {
				if !slices.Contains(names, name) {
					continue
				}
				if isZero, code := f(c, turn); !isZero || code != wantCode {
					t.Errorf("%s%s of %v: zero values %v, code %d, want %d", w.name, name, c, isZero, code, wantCode)
				}
			}
		}
		if slices.Contains(names, "both") {
			if isZero, code := callBoth(c, turn); !isZero || code != wantCode {
				t.Errorf("RunBothWidths of %v: zero values %v, code %d, want %d", c, isZero, code, wantCode)
			}
		}
	}
}

var allTogether = []string{"correction", "step", "run"}

// outOfRange are integers that are no kind, no index, and no number of steps.
var outOfRange = []int64{-1, -2, 201, 202, 1 << 32, math.MaxInt64, math.MinInt64}

func TestTogetherNeedsPolynomials(t *testing.T) {
	call := togetherCall{list: realList(2, -2), most: 5, bound: 0.5}
	for _, p := range badPolynomials() {
		call.p = p
		checkCall(t, call, impl.ErrInvalid, "correction", "step", "run", "both")
		// Beside numbers of points, kinds and so on that are not in their ranges.
		for _, list := range [][]complex128{nil, realList(1), ones(max(len(p)-1, 0)), ones(40)} {
			checkCall(t, togetherCall{p: p, list: list, kind: 2, i: -1, most: 201, bound: -1}, impl.ErrInvalid, "correction", "step", "run", "both")
		}
	}
}

func TestTogetherNeedsFinitePoints(t *testing.T) {
	for _, z := range notFinites {
		for _, list := range [][]complex128{{z, 1}, {1, z}, {z}, {1, 1, z}, {z, z, z}, with(ones(13), 12, z), with(ones(2000), 1999, z)} {
			for _, c := range []togetherCall{
				{p: realList(-1, 0, 1), most: 1},
				{p: realList(-1, 0, 1)},
				{p: realList(-1, 0, 1), kind: 1, i: 1, most: 7},
				{p: realList(-1, 0, 1), kind: 2, i: 2, most: 201, bound: -1},
				{p: realList(-1, 0, 1), kind: -1, i: -1, most: -1, bound: -1},
			} {
				c.list = list
				checkCall(t, c, impl.ErrInvalid, allTogether...)
			}
		}
	}
}

func TestTogetherNeedsAFiniteFloat(t *testing.T) {
	for _, bound := range []float64{nan, inf, -inf} {
		for _, list := range [][]complex128{realList(2, -2), realList(1, 1), realList(1), nil, ones(3)} {
			for _, kind := range []int64{0, 1, 2, -1} {
				for _, most := range []int64{0, 1, 200, 201, -1} {
					checkCall(t, togetherCall{p: realList(-1, 0, 1), list: list, kind: kind, most: most, bound: bound}, impl.ErrInvalid, "run")
				}
			}
		}
	}
}

// There must be as many points as the degree tells.
func TestTogetherNeedsAsManyPoints(t *testing.T) {
	for length := 2; length <= 13; length++ {
		p := ones(length)
		for count := range 16 {
			// Steps would divide by 0, or meet values that are too large.
			for _, list := range [][]complex128{ones(count), make([]complex128, count), slices.Repeat(realList(1e30), count)} {
				if count != length-1 {
					checkCall(t, togetherCall{p: p, list: list, most: 3}, impl.ErrRange, allTogether...)
					checkCall(t, togetherCall{p: p, list: list, kind: 1}, impl.ErrRange, allTogether...)
				}
			}
		}
		checkCall(t, togetherCall{p: p, list: nil}, impl.ErrRange, allTogether...)
		checkCall(t, togetherCall{p: p, list: ones(2000)}, impl.ErrRange, allTogether...)
	}
}

func TestTogetherNeedsNumbersInTheirRanges(t *testing.T) {
	// Steps of the first one do not fail, and those of the others divide by 0 or meet numbers that are
	// too large for one width or both.
	for _, c := range []togetherCall{
		{p: realList(-1, 0, 1), list: realList(2, -2)},
		{p: realList(-1, 0, 1), list: realList(2, 2)},
		{p: realList(1, 1, 1), list: realList(1e30, -1e30)},
		{p: realList(-3e38, 1), list: realList(3e38)},
	} {
		for _, most := range []int64{0, 1, 200} {
			c.most = most
			for _, c.kind = range append([]int64{2, 3}, outOfRange...) {
				checkCall(t, c, impl.ErrRange, "correction", "step", "run", "both")
			}
			c.kind = 1
			for _, c.i = range append([]int64{2, 3, 12}, outOfRange...) {
				checkCall(t, c, impl.ErrRange, "correction")
			}
			c.i = 0
			for _, c.bound = range []float64{-1, -0x1p-140, -1e-40, -3e38} {
				checkCall(t, c, impl.ErrRange, "run")
			}
			c.bound = 0
		}
		for _, c.most = range outOfRange {
			checkCall(t, c, impl.ErrRange, "run", "both")
		}
	}
	for _, i := range []int64{1, 2, -1} {
		checkCall(t, togetherCall{p: realList(1, 1), list: realList(1), i: i}, impl.ErrRange, "correction")
	}
	for _, i := range []int64{12, 13} {
		checkCall(t, togetherCall{p: ones(13), list: wholeTwelve(), i: i}, impl.ErrRange, "correction")
	}
	if run, code := impl.RunTogether(realList(-1, 0, 1), realList(2, -2), 0, false, -tiny, 1); code != impl.ErrRange || !isZeroRun(run) {
		t.Errorf("RunTogether with a float of %g: %v, %d", -tiny, run, code)
	}
	if run, code := impl.NarrowRunTogether(narrowList(realList(-1, 0, 1)), narrowList(realList(2, -2)), 0, false, -tinyNarrow, 1); code != impl.ErrRange || !isZeroRun(wideRun(run)) {
		t.Errorf("NarrowRunTogether with a float of %g: %v, %d", -tinyNarrow, run, code)
	}
}

// wholeTwelve are twelve points.
func wholeTwelve() []complex128 {
	return realList(0, 2, 3, 4, 5, 6, 7, -2, -3, -4, -5, -6)
}

// Numbers in their ranges, at their ends.
func TestTogetherAtTheEndsOfRanges(t *testing.T) {
	for _, w := range bothWidths {
		for _, kind := range bothKinds {
			for i := range int64(12) {
				_, code := w.callCorrectionAt(ones(13), wholeTwelve(), kind, i)
				checkInteger(t, fmt.Sprintf("%scorrection of the point %d", w.name, i), code, 0, impl.ErrNone, 0)
			}
			for _, most := range []int64{0, 1, impl.MaxSteps} {
				_, code := w.callRun(realList(3, 1), realList(0), kind, true, negative, most)
				checkInteger(t, fmt.Sprintf("%srun of %d steps", w.name, most), code, 0, impl.ErrNone, 0)
			}
		}
	}
	if impl.KindWeierstrass != 0 || impl.KindEhrlich != 1 || impl.MaxSteps != 200 {
		t.Error("constants", impl.KindWeierstrass, impl.KindEhrlich, impl.MaxSteps)
	}
}

// Degrees 1 and 12 are those of polynomials, and 0 and 13 are not.
func TestDegreesOfTogether(t *testing.T) {
	for _, w := range bothWidths {
		for name, f := range w.togetherFunctions() {
			for length, want := range map[int]int64{1: impl.ErrInvalid, 2: impl.ErrNone, 13: impl.ErrNone, 14: impl.ErrInvalid} {
				list := append(wholeTwelve(), 7)[:length-1]
				for _, kind := range bothKinds {
					if _, code := f(togetherCall{p: ones(length), list: list, kind: kind, most: 1}, true); code != want {
						t.Errorf("%s%s for %d coefficients: code %d, want %d", w.name, name, length, code, want)
					}
				}
			}
		}
	}
	for length, want := range map[int]int64{0: impl.ErrInvalid, 1: impl.ErrInvalid, 2: impl.ErrNone, 13: impl.ErrNone, 14: impl.ErrInvalid} {
		if _, code := callBoth(togetherCall{p: ones(length), kind: 1, most: 5}, false); code != want {
			t.Errorf("RunBothWidths for %d coefficients: code %d, want %d", length, code, want)
		}
	}
}

// Arguments stay as they are, with the memory behind them.
func TestTogetherChangesNoArgument(t *testing.T) {
	for _, lists := range [][2][]complex128{
		{realList(2, -3, 1), realList(4, -1)}, {realList(-1, 0, 1), realList(1, 1)}, {realList(3, 2), realList(7)}, {ones(13), wholeTwelve()},
	} {
		p, allOfP := roomyList(lists[0])
		list, allOfList := roomyList(lists[1])
		narrow, narrowPoints := narrowList(allOfP), narrowList(allOfList)
		for _, kind := range bothKinds {
			for _, turn := range bothTurns {
				impl.CorrectionAt(p, list, kind, 0)
				impl.StepTogether(p, list, kind, turn)
				impl.RunTogether(p, list, kind, turn, 0.001, 20)
				q, points := narrow[:len(p)], narrowPoints[:len(list)]
				impl.NarrowCorrectionAt(q, points, kind, 0)
				impl.NarrowStepTogether(q, points, kind, turn)
				impl.NarrowRunTogether(q, points, kind, turn, 0.001, 20)
				impl.RunBothWidths(q, kind, turn, 20)
			}
		}
		checkRoomy(t, "chapter 7", allOfP, lists[0])
		checkRoomy(t, "chapter 7", allOfList, lists[1])
		if !slices.Equal(narrow, narrowList(allOfP)) || !slices.Equal(narrowPoints, narrowList(allOfList)) {
			t.Errorf("%v: the narrow arguments become %v and %v", lists, narrow, narrowPoints)
		}
	}
}

// writeOverNarrow fills all memory of a narrow list.
func writeOverNarrow(list []complex64) {
	list = list[:cap(list)]
	for i := range list {
		list[i] = 77
	}
}

// Points of results stay when the arguments and the results of one more call are written over.
func TestTogetherOwnsItsMemory(t *testing.T) {
	p, numbers := realList(-1, 0, 1), realList(2, -3)
	for _, most := range []int64{0, 1, 2, 50} {
		for _, turn := range bothTurns {
			list, all := roomyList(numbers)
			run, _ := impl.RunTogether(p, list, impl.KindEhrlich, turn, 0, most)
			stepped, _, _ := impl.StepTogether(p, list, impl.KindEhrlich, turn)
			want, wantStepped := slices.Clone(run.Points), slices.Clone(stepped)
			again, _ := impl.RunTogether(p, list, impl.KindEhrlich, turn, 0, most)
			writeOver(again.Points)
			checkRoomy(t, "RunTogether", all, numbers)
			writeOver(all)
			checkCoefficients(t, "RunTogether", run.Points, impl.ErrNone, want, impl.ErrNone)
			checkCoefficients(t, "StepTogether", stepped, impl.ErrNone, wantStepped, impl.ErrNone)

			narrow := narrowList(numbers)
			slim, _ := impl.NarrowRunTogether(narrowList(p), narrow, impl.KindEhrlich, turn, 0, most)
			slimStepped, _, _ := impl.NarrowStepTogether(narrowList(p), narrow, impl.KindEhrlich, turn)
			want, wantStepped = wideList(slim.Points), wideList(slimStepped)
			slimAgain, _ := impl.NarrowRunTogether(narrowList(p), narrow, impl.KindEhrlich, turn, 0, most)
			writeOverNarrow(slimAgain.Points)
			checkNarrowList(t, "NarrowRunTogether", narrow, impl.ErrNone, narrowList(numbers), impl.ErrNone)
			writeOverNarrow(narrow)
			checkNarrowList(t, "NarrowRunTogether", slim.Points, impl.ErrNone, narrowList(want), impl.ErrNone)
			checkNarrowList(t, "NarrowStepTogether", slimStepped, impl.ErrNone, narrowList(wantStepped), impl.ErrNone)

			one, two, _ := impl.RunBothWidths(narrowList(p), impl.KindEhrlich, turn, most)
			want, wantStepped = wideList(one.Points), slices.Clone(two.Points)
			other, another, _ := impl.RunBothWidths(narrowList(p), impl.KindEhrlich, turn, most)
			writeOverNarrow(other.Points)
			writeOver(another.Points)
			checkCoefficients(t, "RunBothWidths", wideList(one.Points), impl.ErrNone, want, impl.ErrNone)
			checkCoefficients(t, "RunBothWidths", two.Points, impl.ErrNone, wantStepped, impl.ErrNone)
		}
	}
}
