package tests

import (
	"fmt"
	"math"
	"testing"

	"loop.example/g01156/impl"
)

func TestRootsByDeflation(t *testing.T) {
	minus := complex(negative, negative)
	for _, c := range []struct{ p, want []complex128 }{
		{realList(-1, 0, 1), []complex128{-1, complex(1, negative)}},
		// Degree 1: the quotient, with the opposite of zeros.
		{realList(-5, 1), []complex128{complex(5, negative)}},
		{realList(4, -2), []complex128{2}},
		{[]complex128{2i, 1 + 1i}, []complex128{-1 - 1i}},
		{realList(0, 1), []complex128{complex(negative, 0)}},
		{[]complex128{minus, 1}, realList(0)},
		{realList(0, -1), []complex128{complex(negative, 0)}},
		// Degree 2.
		{realList(2, -3, 1), []complex128{1, complex(2, negative)}},
		{realList(-4, 0, 1), []complex128{-2, complex(2, negative)}},
		{realList(4, 0, 1), []complex128{2i, complex(negative, -2)}},
		// Roots that are met more than once.
		{realList(1, -2, 1), []complex128{1, complex(1, negative)}},
		{realList(4, -4, 1), []complex128{2, complex(2, negative)}},
		{realList(-1, 3, -3, 1), []complex128{1, 1, complex(1, negative)}},
		{realList(1, 4, 6, 4, 1), realList(-1, -1, -1, -1)},
		{realList(0, 0, 1), []complex128{0, complex(negative, 0)}},
		{realList(0, 0, 0, 3), []complex128{0, 0, complex(negative, 0)}},
		{append(make([]complex128, 12), 1), append(make([]complex128, 11), complex(negative, 0))},
		// Roots that are so far away that just exact values of 0 end the walks.
		{realList(-0x1p136, 0, 1), []complex128{-0x1p68, complex(0x1p68, negative)}},
	} {
		checkDeflationRoots(t, c.p, c.want, impl.ErrNone)
	}
}

func TestRootsByDeflationThatFail(t *testing.T) {
	for _, c := range []struct {
		p    []complex128
		code int64
	}{
		// The first walk: a d of 0, and a number that is too large.
		{realList(1, 0, 0, 1), impl.ErrState},
		{append(realList(-1), append(make([]complex128, 11), 1)...), impl.ErrState},
		{realList(0x1p411, 0, -0x1p-970), impl.ErrState},
		{realList(0x1p-218, -0x1p342, -0x1p474), impl.ErrLimit},
		// A later one.
		{realList(0, 1, 0, 0, 1), impl.ErrState},
		{realList(0, -0x1p-873, 0x1p65, 0x1p730), impl.ErrLimit},
		// Polishing the first root, and a later one.
		{realList(0x1p908, -0x1p935, 0, -0x1p923, 0x1p1014, -0x1p969), impl.ErrState},
		{realList(0x1p985, -0x1p1018, 0x1p966, -0x1p912), impl.ErrState},
		{realList(0x1p911, -0x1p1023, -0x1p953, -0x1p982), impl.ErrLimit},
		// The last quotient, of degree 1 and of degree 2, and polishing it.
		{realList(-0x1p533, 0x1p-987), impl.ErrLimit},
		{realList(-0x1p899, -0x1p789, 0x1p-881), impl.ErrLimit},
		{realList(-0x1p952, 0x1p1023, -0x1p907), impl.ErrLimit},
		// The roots of 2^135 are far away: a walk to them is never still. So it is behind the root 0.
		{realList(-0x1p135, 0, 1), impl.ErrNotFound},
		{realList(0, -0x1p135, 0, 1), impl.ErrNotFound},
		{realList(0, 0, 0, 0, -0x1p135, 0, 1), impl.ErrNotFound},
	} {
		checkDeflationRoots(t, c.p, nil, c.code)
		code := codeInOrder(func() { inOrder{}.rootsByDeflation(c.p) })
		checkInteger(t, fmt.Sprintf("the code in order for %v", c.p), code, 0, c.code, 0)
	}
}

// A walk of 100 steps that is still in its last one, and one that would be still in the next.
func TestDeflationHasHundredSteps(t *testing.T) {
	for _, c := range []struct {
		p     []complex128
		steps int64
		code  int64
	}{
		{[]complex128{8 + 8i, 28, 16 - 16i, -4i, 2 + 2i, 1}, 100, impl.ErrNone},
		{[]complex128{96 + 32i, 80 + 96i, -32 + 64i, -40 - 8i, -2 - 18i, 5 - 4i, 1}, 100, impl.ErrNone},
		{[]complex128{-4 + 4i, 12 - 10i, -9 + 4i, -6 + 8i, 12 - 8i, -6 + 2i, 1}, 101, impl.ErrNotFound},
	} {
		for rest := c.p; ; {
			walk, code := impl.LaguerreWalk(rest, 0, 1e-7, impl.MaxSteps)
			if code != impl.ErrNone || !walk.Still || len(rest) < 3 {
				t.Fatalf("%v has no walk of %d steps: %v, %d", c.p, c.steps, walk, code)
			}
			if walk.Steps == c.steps {
				break
			}
			polished, _ := impl.PolishRoot(c.p, walk.Point, 5)
			rest, _, _ = impl.DeflateBy(rest, polished.Point)
		}
		roots, code := impl.RootsByDeflation(c.p)
		if code != c.code || len(roots) != 0 && len(roots) != len(c.p)-1 {
			t.Errorf("RootsByDeflation(%v) = %v, %d, want the code %d", c.p, roots, code, c.code)
		}
	}
}

// Operation by operation, with all codes.
func TestDeflationInOrder(t *testing.T) {
	r := newRandom(351)
	counts := map[int64]int{}
	for range 250 {
		p, _ := anyWalked(r)
		switch r.IntN(6) {
		case 0:
			p = sparseWholes(r)
		case 1:
			p = manyRoots(r, 1+r.IntN(8))
		}
		var want []complex128
		code := codeInOrder(func() { want = inOrder{}.rootsByDeflation(p) })
		checkDeflationRoots(t, p, want, code)
		counts[code]++
		if t.Failed() {
			return
		}
	}
	if counts[impl.ErrNone] < 100 || counts[impl.ErrLimit] < 20 || counts[impl.ErrNotFound] < 10 || counts[impl.ErrState] < 3 {
		t.Errorf("roots by deflation have the codes %v", counts)
	}
}

// Polynomials of different small whole roots: all of them are found.
func TestDeflationFindsTheRoots(t *testing.T) {
	r := newRandom(352)
	found := 0
	for range 600 {
		roots := differentRoots(r, 1+r.IntN(12))
		p, _ := rootsByParts(roots)
		list, code := impl.RootsByDeflation(p)
		if code == impl.ErrState || code == impl.ErrNotFound {
			continue
		}
		found++
		if code != impl.ErrNone || !areNear(list, roots, 1e-6) {
			t.Fatalf("RootsByDeflation(%v) = %v, %d, want %v", p, list, code, roots)
		}
	}
	if found < 500 {
		t.Errorf("just %d of 600 polynomials have roots by deflation", found)
	}
}

// The roots of x^2 - a are those of floats, as near as polishing leads.
func TestDeflationOfSquares(t *testing.T) {
	for n := 1; n <= 400; n++ {
		list, code := impl.RootsByDeflation(realList(float64(-n), 0, 1))
		if code != impl.ErrNone || len(list) != 2 {
			t.Fatalf("the roots of %d: %v, %d", n, list, code)
		}
		for _, z := range list {
			if math.Abs(math.Abs(real(z))-math.Sqrt(float64(n))) > 1e-14 || imag(z) != 0 {
				t.Errorf("the roots of %d: %v", n, list)
			}
		}
	}
}
