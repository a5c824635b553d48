package tests

import (
	"fmt"
	"math"
	"testing"

	"loop.example/g01156/impl"
)

func TestPromise8RootsOfSquaresAreTheIntegers(t *testing.T) {
	check := func(n int64) {
		root, code := impl.RootOfFloat(float64(n * n))
		checkFloat(t, fmt.Sprintf("RootOfFloat(%d^2)", n), root, code, float64(n), impl.ErrNone)
		m, code := impl.ModulusOf(complex(0, float64(-n)))
		checkFloat(t, fmt.Sprintf("ModulusOf(-%d i)", n), m, code, float64(n), impl.ErrNone)
		z, code := impl.RootOfComplex(complex(float64(n*n), 0))
		checkWide(t, fmt.Sprintf("RootOfComplex(%d^2)", n), z, code, complex(float64(n), 0), impl.ErrNone)
		z, code = impl.RootOfComplex(complex(float64(-n*n), 0))
		checkWide(t, fmt.Sprintf("RootOfComplex(-%d^2)", n), z, code, complex(0, float64(n)), impl.ErrNone)
	}
	r := newRandom(361)
	for n := range int64(2000) {
		check(n)
		check(90000000 - n)
		check(r.Int64N(90000001))
	}
	for n := range 4097 {
		root, code := impl.RootOfFloatNarrow(float32(n * n))
		checkFloat(t, fmt.Sprintf("RootOfFloatNarrow(%d^2)", n), float64(root), code, float64(n), impl.ErrNone)
	}
}

func isAtLeastZero(x float64) bool {
	return x >= 0 && !math.Signbit(x)
}

// The real part of a root is at least 0, and the imaginary part has the sign of that of the number.
func TestPromise8RootsHaveRealPartsOfAtLeastZero(t *testing.T) {
	r := newRandom(362)
	lefts, narrows := 0, 0
	for range 20000 {
		z := anyRooted(r)
		root, code := impl.RootOfComplex(z)
		if !isAtLeastZero(real(root)) || code == impl.ErrNone && (imag(z) < 0) != math.Signbit(imag(root)) {
			t.Fatalf("RootOfComplex(%v) = %v", z, root)
		}
		if code == impl.ErrNone && real(z) < 0 {
			lefts++
		}
		narrow, code := impl.RootOfComplexNarrow(complex64(z))
		if !isAtLeastZero(float64(real(narrow))) {
			t.Fatalf("RootOfComplexNarrow(%v) = %v", z, narrow)
		}
		if code == impl.ErrNone && narrow != 0 {
			narrows++
		}
	}
	if lefts < 4000 || narrows < 5000 {
		t.Errorf("just %d roots of numbers with negative real parts, and %d narrow ones", lefts, narrows)
	}
}

// The square of a root is near to the number.
func TestPromise8SquaresOfRootsAreNear(t *testing.T) {
	r := newRandom(363)
	for range 10000 {
		z := spreadNumbers(r, 1, -400, 400)[0]
		root, code := impl.RootOfComplex(z)
		if code != impl.ErrNone || sizeOf(root*root-z) > 1e-15*sizeOf(z) {
			t.Fatalf("RootOfComplex(%v) = %v, %d", z, root, code)
		}
	}
}

func valueSize(t *testing.T, p []complex128, z complex128) float64 {
	t.Helper()
	value, code := impl.ValueOf(p, z)
	if code != impl.ErrNone {
		t.Fatalf("ValueOf(%v, %v) has the code %d", p, z, code)
	}
	size, _ := impl.SizeOf(value)
	return size
}

// Each step of polishing makes the value smaller, and polishing ends where none does.
func TestPromise8PolishingMakesValuesSmaller(t *testing.T) {
	r := newRandom(364)
	smaller, still := 0, 0
	for range 5000 {
		p, z := anyWalked(r)
		most := int64(1 + r.IntN(8))
		walk, code := impl.PolishRoot(p, z, most)
		if code != impl.ErrNone {
			continue
		}
		before, after := valueSize(t, p, z), valueSize(t, p, walk.Point)
		if walk.Steps == 0 && !sameWide(walk.Point, z) || walk.Steps > 0 && !(after < before) || walk.Steps > most {
			t.Fatalf("PolishRoot(%v, %v, %d) = %v: sizes %g and %g", p, z, most, walk, before, after)
		}
		if walk.Steps > 0 {
			smaller++
		}
		if walk.Still {
			still++
			next, code := impl.NewtonCorrection(p, walk.Point)
			if after > 0 && code == impl.ErrNone && valueSize(t, p, walk.Point-next) < after {
				t.Fatalf("PolishRoot(%v, %v, %d) = %v could go on", p, z, most, walk)
			}
		} else if walk.Steps != most {
			t.Fatalf("PolishRoot(%v, %v, %d) = %v is not still", p, z, most, walk)
		}
	}
	if smaller < 2500 || still < 500 {
		t.Errorf("just %d values become smaller, and %d are still", smaller, still)
	}
}

// Polishing in single steps, one after the other, leads to the same points.
func TestPromise8PolishingIsSingleSteps(t *testing.T) {
	r := newRandom(365)
	for range 2000 {
		p, z := anyWalked(r)
		most := int64(r.IntN(8))
		want, wantCode := impl.Walk{Point: z}, int64(impl.ErrNone)
		for want.Steps < most && !want.Still && wantCode == impl.ErrNone {
			steps := want.Steps
			var next impl.Walk
			next, wantCode = impl.PolishRoot(p, want.Point, 1)
			if next.Steps == 1 {
				want = impl.Walk{Point: next.Point, Steps: steps + 1, Last: next.Last}
			} else {
				want.Still = true
			}
		}
		checkPolishRoot(t, p, z, most, want, wantCode)
	}
}

// Walks are single corrections that are taken away, and still exactly if the last size is at most the
// float: also in the last allowed step, for a float that equals the size, and not for one just less.
func TestPromise19WalksAreSingleCorrections(t *testing.T) {
	r := newRandom(371)
	still, notStill := 0, 0
	for range 300 {
		p, z := anyWalked(r)
		walks := []impl.Walk{{Point: z}}
		for len(walks) < 8 {
			last := walks[len(walks)-1]
			c, code := impl.LaguerreCorrection(p, last.Point)
			if code != impl.ErrNone {
				break
			}
			point, code := impl.SubtractWide(last.Point, c)
			size, other := impl.SizeOf(c)
			if code != impl.ErrNone || other != impl.ErrNone {
				break
			}
			walks = append(walks, impl.Walk{Point: point, Steps: last.Steps + 1, Last: size})
		}
		for most := range walks {
			for _, other := range walks {
				for _, bound := range []float64{0, other.Last, math.Nextafter(other.Last, 0), math.Nextafter(other.Last, huge)} {
					want := walks[0]
					for i := 1; i <= most && !want.Still; i++ {
						want = walks[i]
						want.Still = want.Last <= bound
					}
					checkLaguerreWalk(t, p, z, bound, int64(most), want, impl.ErrNone)
					if want.Still {
						still++
					} else {
						notStill++
					}
				}
			}
		}
		if t.Failed() {
			return
		}
	}
	if still < 5000 || notStill < 5000 {
		t.Errorf("just %d walks are still, and %d are not", still, notStill)
	}
}

// deflatedStep is one root by deflation: the polished point of a walk, or of the last quotient.
func deflatedStep(p, rest []complex128) (complex128, int64) {
	var near complex128
	var code int64
	if len(rest) == 2 {
		near, code = impl.DivideWide(-rest[0], rest[1])
	} else {
		var walk impl.Walk
		walk, code = impl.LaguerreWalk(rest, 0, 0.0000001, 100)
		if code == impl.ErrNone && !walk.Still {
			return 0, impl.ErrNotFound
		}
		near = walk.Point
	}
	if code != impl.ErrNone {
		return 0, code
	}
	polished, code := impl.PolishRoot(p, near, 5)
	return polished.Point, code
}

// Roots by deflation are the polished points of walks, as many as the degree tells, and the rests of
// deflating are the values at them.
func TestPromise19RootsByDeflationArePolishedWalks(t *testing.T) {
	r := newRandom(372)
	counts, rests := map[int64]int{}, 0
	for range 4000 {
		p, _ := anyWalked(r)
		if r.IntN(3) == 0 {
			p = manyRoots(r, 1+r.IntN(12))
		}
		roots, code := impl.RootsByDeflation(p)
		counts[code]++
		rest, want, wantCode := p, []complex128{}, int64(impl.ErrNone)
		for len(want) < len(p)-1 && wantCode == impl.ErrNone {
			var root complex128
			if root, wantCode = deflatedStep(p, rest); wantCode != impl.ErrNone {
				break
			}
			want = append(want, root)
			if len(rest) == 2 {
				break
			}
			quotient, number, deflateCode := impl.DeflateBy(rest, root)
			value, valueCode := impl.ValueOf(rest, root)
			checkWide(t, fmt.Sprintf("the rest of deflating %v by %v", rest, root), number, deflateCode, value, valueCode)
			rest, wantCode = quotient, deflateCode
			rests++
		}
		checkCoefficients(t, fmt.Sprintf("RootsByDeflation(%v)", p), roots, code, want, wantCode)
		if code == impl.ErrNone && len(roots) != len(p)-1 {
			t.Errorf("RootsByDeflation(%v) = %v: %d roots", p, roots, len(roots))
		}
		if t.Failed() {
			return
		}
	}
	if counts[impl.ErrNone] < 2500 || counts[impl.ErrNotFound] < 100 || counts[impl.ErrLimit] < 100 || rests < 10000 {
		t.Errorf("roots by deflation have the codes %v, with %d rests", counts, rests)
	}
}

// Polishing matters: some walks end at points that polishing moves, with 5 steps and less.
func TestPromise19PolishingHasFiveSteps(t *testing.T) {
	r := newRandom(373)
	steps, five := map[int64]int{}, 0
	for range 1500 {
		p := manyRoots(r, 2+r.IntN(6))
		walk, code := impl.LaguerreWalk(p, 0, 1e-7, 100)
		if code != impl.ErrNone || !walk.Still {
			continue
		}
		polished, code := impl.PolishRoot(p, walk.Point, 5)
		more, _ := impl.PolishRoot(p, walk.Point, 6)
		roots, rootsCode := impl.RootsByDeflation(p)
		if code != impl.ErrNone || rootsCode != impl.ErrNone {
			continue
		}
		if !sameWide(roots[0], polished.Point) {
			t.Fatalf("RootsByDeflation(%v) = %v begins not with %v", p, roots, polished.Point)
		}
		steps[polished.Steps]++
		if more.Point != polished.Point {
			five++
		}
	}
	if steps[0] < 100 || steps[1] < 100 || five < 10 {
		t.Errorf("polishing has the steps %v, and %d times less than possible", steps, five)
	}
}
