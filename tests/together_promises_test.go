package tests

import (
	"fmt"
	"math"
	"math/rand/v2"
	"slices"
	"testing"

	"loop.example/g01156/impl"
)

// singleSteps makes one step after the other, until a move is at most the float, or as many as
// allowed have been made.
func (w togetherWidth) singleSteps(p, list []complex128, kind int64, turn bool, bound float64, most int64) (impl.Run, int64) {
	run := impl.Run{Points: list}
	for run.Steps < most {
		points, move, code := w.callStep(p, run.Points, kind, turn)
		if code != impl.ErrNone {
			return impl.Run{}, code
		}
		run = impl.Run{Points: points, Steps: run.Steps + 1, Last: move}
		if move <= bound {
			run.Still = true
			break
		}
	}
	return run, impl.ErrNone
}

// anyBound gives a narrow float of at least 0.
func anyBound(r *rand.Rand) float64 {
	switch r.IntN(4) {
	case 0:
		return []float64{0, negative}[r.IntN(2)]
	default:
		return float64(float32(math.Ldexp(r.Float64(), -r.IntN(30))))
	}
}

func TestPromise7RunsAreSingleSteps(t *testing.T) {
	for seed, w := range bothWidths {
		r := newRandom(251 + uint64(seed))
		counts, still, notStill := map[int64]int{}, 0, 0
		for range 3000 {
			p, list := w.anyTogether(r)
			kind, turn, bound, most := int64(r.IntN(2)), r.IntN(2) == 0, anyBound(r), int64(r.IntN(40))
			if r.IntN(20) == 0 {
				most = impl.MaxSteps
			}
			want, code := w.singleSteps(p, list, kind, turn, bound, most)
			w.checkRun(t, p, list, kind, turn, bound, most, want, code)
			counts[code]++
			if want.Still {
				still++
			} else if code == impl.ErrNone {
				notStill++
			}
			if t.Failed() {
				return
			}
		}
		if counts[impl.ErrLimit] < 200 || counts[impl.ErrState] < 100 || still < 300 || notStill < 300 {
			t.Errorf("%sruns have the codes %v, %d are still and %d not", w.name, counts, still, notStill)
		}
	}
}

// movesOf are the moves of some single steps, until one of them fails.
func (w togetherWidth) movesOf(p, list []complex128, kind int64, turn bool, count int) []float64 {
	var moves []float64
	for range count {
		points, move, code := w.callStep(p, list, kind, turn)
		if code != impl.ErrNone {
			break
		}
		list = points
		moves = append(moves, move)
	}
	return moves
}

// A run is still exactly if a last step was made and its move is at most its float: also in its last
// allowed step, for a float that equals the move, and not for one that is just less.
func TestPromise7RunsAreStillExactlyIfTheirMoveIsSmall(t *testing.T) {
	for seed, w := range bothWidths {
		r := newRandom(253 + uint64(seed))
		still, notStill := 0, 0
		for range 500 {
			p, list := pointsNearRoots(r, 1+r.IntN(8))
			for n := range list {
				list[n] = w.narrowed(list[n])
			}
			kind, turn := int64(r.IntN(2)), r.IntN(2) == 0
			moves := w.movesOf(p, list, kind, turn, 1+r.IntN(7))
			for most := range len(moves) + 1 {
				for _, move := range moves {
					for _, bound := range []float64{0, move, w.below(move), 2 * move} {
						run, code := w.callRun(p, list, kind, turn, bound, int64(most))
						first := slices.IndexFunc(moves[:most], func(x float64) bool { return x <= bound })
						want := impl.Run{Points: run.Points, Steps: int64(most)}
						if first >= 0 {
							want.Steps, want.Still = int64(first+1), true
							still++
						} else {
							notStill++
						}
						if want.Steps > 0 {
							want.Last = moves[want.Steps-1]
						}
						checkSameRun(t, fmt.Sprintf("%srun(%v, %v, %d, %v, %g, %d)", w.name, p, list, kind, turn, bound, most), run, code, want, impl.ErrNone)
					}
				}
			}
			if t.Failed() {
				return
			}
		}
		if still < 10000 || notStill < 10000 {
			t.Errorf("%sjust %d runs are still, and %d are not", w.name, still, notStill)
		}
	}
}

// below is the greatest float of a width that is less than x.
func (w togetherWidth) below(x float64) float64 {
	if w.isNarrow {
		return float64(math.Nextafter32(float32(x), 0))
	}
	return math.Nextafter(x, 0)
}

// hasValueZero tells whether the value of a polynomial at a point is 0, in a width.
func (w togetherWidth) hasValueZero(p []complex128, z complex128) bool {
	if w.isNarrow {
		value, code := impl.NarrowValueOf(narrowList(p), complex64(z))
		return value == 0 && code == impl.ErrNone
	}
	value, code := impl.ValueOf(p, z)
	return value == 0 && code == impl.ErrNone
}

func TestPromise7CorrectionsAtAValueOfZeroAreZero(t *testing.T) {
	for seed, w := range bothWidths {
		r := newRandom(255 + uint64(seed))
		zeros, twice := 0, 0
		for range 2000 {
			p, list := pointsNearRoots(r, 1+r.IntN(8))
			for n := range list {
				list[n] = w.narrowed(list[n])
			}
			for i, z := range list {
				if !w.hasValueZero(p, z) {
					continue
				}
				zeros++
				w.checkCorrection(t, p, list, impl.KindEhrlich, int64(i), 0, impl.ErrNone)
				c, code := w.callCorrectionAt(p, list, impl.KindWeierstrass, int64(i))
				if slices.Contains(list[:i], z) || slices.Contains(list[i+1:], z) {
					twice++
					checkWide(t, fmt.Sprintf("correction(%v, %v, %d)", p, list, i), c, code, 0, impl.ErrState)
				} else if c != 0 || code != impl.ErrNone {
					t.Errorf("%scorrection(%v, %v, %d) = %v, %d", w.name, p, list, i, c, code)
				}
			}
		}
		if zeros < 1000 || twice < 50 {
			t.Errorf("%sjust %d values are 0, and %d of points that are met twice", w.name, zeros, twice)
		}
	}
}

// Steps take away what CorrectionAt tells: at once for the old points, in turn for the changed ones.
func TestPromise7StepsTakeCorrectionsAway(t *testing.T) {
	for seed, w := range bothWidths {
		r := newRandom(257 + uint64(seed))
		different := 0
		for range 1500 {
			p, list := w.anyTogether(r)
			for _, kind := range bothKinds {
				once, onceCode := w.takenAway(p, list, kind, false)
				turn, turnCode := w.takenAway(p, list, kind, true)
				w.checkStep(t, p, list, kind, false, once.Points, once.Last, onceCode)
				w.checkStep(t, p, list, kind, true, turn.Points, turn.Last, turnCode)
				if !slices.Equal(once.Points, turn.Points) {
					different++
				}
			}
			if t.Failed() {
				return
			}
		}
		if different < 1000 {
			t.Errorf("%sjust %d steps at once and in turn are different", w.name, different)
		}
	}
}

func (w togetherWidth) takenAway(p, list []complex128, kind int64, turn bool) (impl.Run, int64) {
	run := impl.Run{Points: slices.Clone(list)}
	sizes := []complex128{}
	for i := range list {
		seen := list
		if turn {
			seen = run.Points
		}
		c, code := w.callCorrectionAt(p, seen, kind, int64(i))
		if code != impl.ErrNone {
			return impl.Run{}, code
		}
		if run.Points[i], code = w.difference(list[i], c); code != impl.ErrNone {
			return impl.Run{}, code
		}
		sizes = append(sizes, c)
	}
	for _, c := range sizes {
		size, code := w.sizeOf(c)
		if code != impl.ErrNone {
			return impl.Run{}, code
		}
		run.Last = max(run.Last, size)
	}
	return run, impl.ErrNone
}

func (w togetherWidth) difference(a, b complex128) (complex128, int64) {
	if w.isNarrow {
		z, code := impl.SubtractNarrow(complex64(a), complex64(b))
		return complex128(z), code
	}
	return impl.SubtractWide(a, b)
}

func (w togetherWidth) sizeOf(z complex128) (float64, int64) {
	if w.isNarrow {
		size, code := impl.SizeOfNarrow(complex64(z))
		return float64(size), code
	}
	return impl.SizeOf(z)
}

func TestPromise17RunsOfBothWidthsAreTwoRuns(t *testing.T) {
	r := newRandom(259)
	still, notStill, counts := 0, 0, map[int64]int{}
	for range 1500 {
		p, _ := rootsByParts(wholeNumbers(r, 1+r.IntN(6)))
		if r.IntN(3) == 0 {
			p, _ = narrowWidth.anyTogether(r)
		}
		q := narrowList(p)
		kind, turn, most := int64(r.IntN(2)), r.IntN(2) == 0, int64(r.IntN(201))
		narrow, wide, code := impl.RunBothWidths(q, kind, turn, most)
		starting, wantCode := impl.StartingPoints(wideList(q))
		var points []complex64
		if wantCode == impl.ErrNone {
			points, wantCode = impl.NarrowPoints(starting)
		}
		var wantNarrow impl.NarrowRun
		if wantCode == impl.ErrNone {
			wantNarrow, wantCode = impl.NarrowRunTogether(q, points, kind, turn, 0.0001, most)
		}
		var want impl.Run
		if wantCode == impl.ErrNone {
			want, wantCode = impl.RunTogether(wideList(q), wideList(wantNarrow.Points), kind, turn, 1e-11, most)
		}
		name := fmt.Sprintf("RunBothWidths(%v, %d, %v, %d)", q, kind, turn, most)
		checkSameRun(t, name, wideRun(narrow), code, wideRun(wantNarrow), wantCode)
		checkSameRun(t, name, wide, code, want, wantCode)
		counts[code]++
		if narrow.Still && wide.Still {
			still++
		} else if code == impl.ErrNone && !narrow.Still {
			notStill++
		}
	}
	if counts[impl.ErrNone] < 600 || counts[impl.ErrLimit] < 20 || still < 300 || notStill < 20 {
		t.Errorf("runs have the codes %v, %d are still, %d are not", counts, still, notStill)
	}
}

// Runs of both widths end at the roots of polynomials of small whole ones.
func TestRunsOfBothWidthsFindTheRoots(t *testing.T) {
	r := newRandom(260)
	for range 300 {
		roots := differentRoots(r, 1+r.IntN(6))
		p, _ := rootsByParts(roots)
		for _, kind := range bothKinds {
			for _, turn := range bothTurns {
				narrow, wide, code := impl.RunBothWidths(narrowList(p), kind, turn, impl.MaxSteps)
				if !wide.Still || code != impl.ErrNone || !areNear(wideList(narrow.Points), roots, 0.05) || !areNear(wide.Points, roots, 1e-9) {
					t.Fatalf("RunBothWidths(%v, %d, %v) = %v, %v, %d", p, kind, turn, narrow, wide, code)
				}
			}
		}
	}
}

// areNear tells whether each root has its own point that is not farther than told.
func areNear(points, roots []complex128, most float64) bool {
	rest := slices.Clone(points)
	for _, root := range roots {
		i := slices.IndexFunc(rest, func(z complex128) bool { return sizeOf(z-root) <= most })
		if i < 0 {
			return false
		}
		rest = slices.Delete(rest, i, i+1)
	}
	return len(rest) == 0
}

// With all other points at roots, the correction leads to the last root.
func TestCorrectionsBesideRootsLeadToTheLastOne(t *testing.T) {
	p, roots := foursOfRoots()
	for _, w := range bothWidths {
		for _, kind := range bothKinds {
			for i, root := range roots {
				c, code := w.callCorrectionAt(p, with(roots, i, root+0.5-0.25i), kind, int64(i))
				if sizeOf(c-(0.5-0.25i)) > 1e-4 || code != impl.ErrNone {
					t.Errorf("%scorrection beside %v: %v, %d", w.name, root, c, code)
				}
			}
		}
	}
}
