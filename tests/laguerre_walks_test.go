package tests

import (
	"math"
	"testing"

	"loop.example/g01156/impl"
)

func TestLaguerreWalk(t *testing.T) {
	square := realList(-1, 0, 1)
	for _, c := range []struct {
		bound float64
		most  int64
		want  impl.Walk
	}{
		{1e-9, 20, impl.Walk{Point: -1, Steps: 2, Still: true}},
		{0, 20, impl.Walk{Point: -1, Steps: 2, Still: true}},
		{negative, 20, impl.Walk{Point: -1, Steps: 2, Still: true}},
		{0, impl.MaxSteps, impl.Walk{Point: -1, Steps: 2, Still: true}},
		// The last allowed step can make it still, and need not.
		{0, 2, impl.Walk{Point: -1, Steps: 2, Still: true}},
		{0, 1, impl.Walk{Point: -1, Steps: 1, Last: 1}},
		{math.Nextafter(1, 0), 1, impl.Walk{Point: -1, Steps: 1, Last: 1}},
		{math.Nextafter(1, 0), 2, impl.Walk{Point: -1, Steps: 2, Still: true}},
		{1, 1, impl.Walk{Point: -1, Steps: 1, Last: 1, Still: true}},
		{1, 20, impl.Walk{Point: -1, Steps: 1, Last: 1, Still: true}},
		{huge, 20, impl.Walk{Point: -1, Steps: 1, Last: 1, Still: true}},
		{0, 0, impl.Walk{}},
		{huge, 0, impl.Walk{}},
	} {
		checkLaguerreWalk(t, square, 0, c.bound, c.most, c.want, impl.ErrNone)
	}
	// Sizes are sums of the absolute values of both parts.
	far := []complex128{-3 - 4i, 1}
	checkLaguerreWalk(t, far, 0, 6, 1, impl.Walk{Point: 3 + 4i, Steps: 1, Last: 7}, impl.ErrNone)
	checkLaguerreWalk(t, []complex128{-4 - 4i, 1}, 0, 8, 5, impl.Walk{Point: 4 + 4i, Steps: 1, Last: 8, Still: true}, impl.ErrNone)
	checkLaguerreWalk(t, []complex128{-4 - 4i, 1}, 0, 7, 5, impl.Walk{Point: 4 + 4i, Steps: 2, Still: true}, impl.ErrNone)
}

// A walk from a root makes one step, and a point keeps the signs of its zeros.
func TestLaguerreWalksFromRoots(t *testing.T) {
	minus := complex(negative, negative)
	for _, z := range []complex128{0, minus, complex(negative, 0), complex(0, negative)} {
		for _, p := range [][]complex128{realList(0, 1), realList(0, 0, 1), realList(0, 5, 0, 1), {minus, 1}} {
			for _, bound := range []float64{0, negative, 1} {
				checkLaguerreWalk(t, p, z, bound, 0, impl.Walk{Point: z}, impl.ErrNone)
				checkLaguerreWalk(t, p, z, bound, 1, impl.Walk{Point: z, Steps: 1, Still: true}, impl.ErrNone)
				checkLaguerreWalk(t, p, z, bound, impl.MaxSteps, impl.Walk{Point: z, Steps: 1, Still: true}, impl.ErrNone)
			}
		}
	}
	checkLaguerreWalk(t, realList(-6, 3), complex(2, negative), 0, 3, impl.Walk{Point: complex(2, negative), Steps: 1, Still: true}, impl.ErrNone)
}

// The value at the float nearest to the root of 5 is not 0: corrections are found that are too small
// to change it.
func TestLaguerreWalksOfMaxSteps(t *testing.T) {
	p, root := realList(-5, 0, 1), complex(rootOf(5), 0)
	c, code := impl.LaguerreCorrection(p, root)
	size := real(c)
	if size < 1e-17 || size > 1e-15 || imag(c) != 0 || code != impl.ErrNone {
		t.Fatal("the correction at the root of 5", c, code)
	}
	for _, most := range []int64{1, 99, 100, 101, 199, impl.MaxSteps} {
		checkLaguerreWalk(t, p, root, 0, most, impl.Walk{Point: root, Steps: most, Last: size}, impl.ErrNone)
		checkLaguerreWalk(t, p, root, math.Nextafter(size, 0), most, impl.Walk{Point: root, Steps: most, Last: size}, impl.ErrNone)
		checkLaguerreWalk(t, p, root, size, most, impl.Walk{Point: root, Steps: 1, Last: size, Still: true}, impl.ErrNone)
	}
	for _, most := range outOfRange {
		if most != 0 {
			checkLaguerreWalk(t, p, root, 0, most, impl.Walk{}, impl.ErrRange)
			checkPolishRoot(t, p, root, most, impl.Walk{}, impl.ErrRange)
		}
	}
}

// A step that fails ends a walk without a result, if it is made.
func TestLaguerreWalksThatFail(t *testing.T) {
	for _, c := range []struct {
		p    []complex128
		z    complex128
		code int64
	}{
		{realList(1, 0, 0, 1), 0, impl.ErrState},
		{realList(0x1p1000, 0x1p-200), 0, impl.ErrState},
		{realList(1, 0x1p512), 0, impl.ErrLimit},
		{realList(0, 0, 1), 1e200, impl.ErrLimit},
		// A point after the step that is not finite, and a size.
		{realList(-0x1p1023, 0.5), 0x1p1023, impl.ErrLimit},
		{realList(0, 0.125), complex(0x1p1023, 0x1p1023), impl.ErrLimit},
		{realList(0, 0.125), complex(-0x1p1023, 0x1p1023), impl.ErrLimit},
		// The quotient of slope and value is 0, since what is used within it is infinite.
		{realList(0, 1), complex(0x1p1023, 0x1p1023), impl.ErrState},
	} {
		for _, bound := range []float64{0, 1, huge} {
			checkLaguerreWalk(t, c.p, c.z, bound, 0, impl.Walk{Point: c.z}, impl.ErrNone)
			checkLaguerreWalk(t, c.p, c.z, bound, 1, impl.Walk{}, c.code)
			checkLaguerreWalk(t, c.p, c.z, bound, impl.MaxSteps, impl.Walk{}, c.code)
		}
	}
	checkLaguerre(t, realList(-0x1p1023, 0.5), 0x1p1023, complex(-0x1p1023, negative), impl.ErrNone)
	checkLaguerre(t, realList(0, 0.125), complex(0x1p1023, 0x1p1023), complex(0x1p1023, 0x1p1023), impl.ErrNone)
	// A size that is just finite.
	top := complex(0x1p1022, -0x1p1022)
	checkLaguerreWalk(t, realList(0, 0.125), top, 0x1p1023, 3, impl.Walk{Steps: 1, Last: 0x1p1023, Still: true}, impl.ErrNone)
}

// The first step leads to where the second one meets a number that is too large.
func TestLaguerreWalksThatFailLater(t *testing.T) {
	r := newRandom(331)
	count := 0
	for range 3000 {
		p, z := spreadNumbers(r, 2+r.IntN(12), -600, 600), spreadNumbers(r, 1, -60, 60)[0]
		first, code := impl.LaguerreWalk(p, z, 0, 1)
		if code != impl.ErrNone || first.Still {
			continue
		}
		if _, code = impl.LaguerreCorrection(p, first.Point); code == impl.ErrNone {
			continue
		}
		count++
		for _, most := range []int64{2, 3, impl.MaxSteps} {
			checkLaguerreWalk(t, p, z, 0, most, impl.Walk{}, code)
		}
		first.Still = true
		checkLaguerreWalk(t, p, z, first.Last, 2, first, impl.ErrNone)
	}
	if count < 20 {
		t.Errorf("just %d walks fail in the second step", count)
	}
}

// Operation by operation, with all codes.
func TestWalksInOrder(t *testing.T) {
	r := newRandom(332)
	counts, still, notStill := map[int64]int{}, 0, 0
	for range 800 {
		p, z := anyWalked(r)
		most := int64(r.IntN(9))
		bound := anyBound(r)
		var want impl.Walk
		code := codeInOrder(func() { want = inOrder{}.walk(p, z, bound, most) })
		checkLaguerreWalk(t, p, z, bound, most, want, code)
		counts[code]++
		if code == impl.ErrNone && want.Still {
			still++
		} else if code == impl.ErrNone {
			notStill++
		}
		if t.Failed() {
			return
		}
	}
	if counts[impl.ErrLimit] < 50 || still < 200 || notStill < 100 {
		t.Errorf("walks have the codes %v, %d are still, and %d are not", counts, still, notStill)
	}
}
