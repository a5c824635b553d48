package tests

import (
	"math"
	"testing"

	"loop.example/g01156/impl"
)

// polishCase is what polishing a number with so many steps leads to.
type polishCase struct {
	p    []complex128
	z    complex128
	most int64
	want impl.Walk
}

func TestPolishRoot(t *testing.T) {
	square, circle, cube := realList(-1, 0, 1), realList(1, 0, 1), realList(2, -2, 0, 1)
	last := complex(1.025-0.050625/2.05, 0)
	for _, c := range []polishCase{
		{square, 2, 0, impl.Walk{Point: 2}},
		{square, 2, 1, impl.Walk{Point: 1.25, Steps: 1, Last: 0.75}},
		{square, 2, 2, impl.Walk{Point: 1.025, Steps: 2, Last: 0.225}},
		// A value of 0 is asked for if a step is still allowed.
		{square, 1, 0, impl.Walk{Point: 1}},
		{square, 1, 1, impl.Walk{Point: 1, Still: true}},
		{square, -1, impl.MaxSteps, impl.Walk{Point: -1, Still: true}},
		{realList(-6, 3), 5, 1, impl.Walk{Point: 2, Steps: 1, Last: 3}},
		{realList(-6, 3), 5, 2, impl.Walk{Point: 2, Steps: 1, Last: 3, Still: true}},
		{realList(1, -2, 1), 1, 5, impl.Walk{Point: 1, Still: true}},
		// The next value is 2 instead of 1, and is only asked for if a step is still allowed.
		{cube, 0, 0, impl.Walk{}},
		{cube, 0, 1, impl.Walk{Point: 1, Steps: 1, Last: 1}},
		{cube, 0, 2, impl.Walk{Point: 1, Steps: 1, Last: 1, Still: true}},
		{cube, 0, impl.MaxSteps, impl.Walk{Point: 1, Steps: 1, Last: 1, Still: true}},
		{cube, 1, 1, impl.Walk{Point: 1, Still: true}},
		// The next value is the same.
		{realList(3, 0, 1), 1, 0, impl.Walk{Point: 1}},
		{realList(3, 0, 1), 1, 1, impl.Walk{Point: 1, Still: true}},
		{realList(3, 0, 1), -1, 5, impl.Walk{Point: -1, Still: true}},
		// The next value has a smaller modulus, but no smaller size; and the other way round.
		{[]complex128{2.5 + 1.5i, 0, 1}, 1, 1, impl.Walk{Point: 1, Still: true}},
		{[]complex128{2.5 + 3.5i, 0, 1}, 1, 1, impl.Walk{Point: -0.75 - 1.75i, Steps: 1, Last: 3.5}},
		// Sizes of corrections are those of both parts.
		{[]complex128{-3 - 4i, 1}, 0, 1, impl.Walk{Point: 3 + 4i, Steps: 1, Last: 7}},
		// A step to where the slope is 0.
		{circle, 1, 1, impl.Walk{Steps: 1, Last: 1}},
	} {
		checkPolishRoot(t, c.p, c.z, c.most, c.want, impl.ErrNone)
	}
	walk, code := impl.PolishRoot(square, 2, 3)
	if sizeOf(walk.Point-last) > 1e-15 || walk.Steps != 3 || walk.Still || math.Abs(walk.Last-0.050625/2.05) > 1e-15 || code != impl.ErrNone {
		t.Errorf("three steps lead to %v, %d", walk, code)
	}
}

// A number at which the value is 0 keeps the signs of its zeros.
func TestPolishingAtRoots(t *testing.T) {
	minus := complex(negative, negative)
	for _, z := range []complex128{0, minus, complex(negative, 0), complex(0, negative)} {
		for _, p := range [][]complex128{realList(0, 1), realList(0, 0, 1), realList(0, 5, 0, 1), {minus, 1}, realList(0, huge, huge)} {
			checkPolishRoot(t, p, z, 0, impl.Walk{Point: z}, impl.ErrNone)
			for _, most := range []int64{1, 2, impl.MaxSteps} {
				checkPolishRoot(t, p, z, most, impl.Walk{Point: z, Still: true}, impl.ErrNone)
			}
		}
	}
	// The last step made tells its size, although the number that it leads to is a root.
	checkPolishRoot(t, realList(0, 1), 3-4i, 1, impl.Walk{Steps: 1, Last: 7}, impl.ErrNone)
	checkPolishRoot(t, realList(0, 1), 3-4i, 7, impl.Walk{Steps: 1, Last: 7, Still: true}, impl.ErrNone)
}

func TestPolishingThatFails(t *testing.T) {
	for _, c := range []struct {
		p    []complex128
		z    complex128
		code int64
		// The first number of steps that fails.
		first int64
	}{
		// A slope of 0, at once and behind a step.
		{realList(1, 0, 1), 0, impl.ErrState, 1},
		{realList(-1, 0, 1), 0, impl.ErrState, 1},
		{realList(1, 0, 1), 1, impl.ErrState, 2},
		{realList(1, 0, 1), -1, impl.ErrState, 2},
		// Values, slopes and corrections that are not finite.
		{realList(0, 0, 1), 1e200, impl.ErrLimit, 1},
		{realList(1, 1, 0x1p1023), 0, impl.ErrLimit, 1},
		{realList(0x1p1000, 0x1p-60), 0, impl.ErrLimit, 1},
		// A new point that is not finite, and a new value.
		{realList(-0x1p1023, 0.5), 0x1p1023, impl.ErrLimit, 1},
		{realList(1, 0x1p-600, 0, 1), 0, impl.ErrLimit, 1},
		{realList(-1, 0x1p-600, 0, 1), 0, impl.ErrLimit, 1},
		// Sizes of values that are not finite: the new one, and the old one.
		{[]complex128{1, 0x1p-10, complex(0x1p1003, 0x1p1003)}, 0, impl.ErrLimit, 1},
		{[]complex128{complex(0x1p1023, 0x1p1023), 0x1p100}, 0, impl.ErrLimit, 1},
		// The slope of 0 comes before the size of the value.
		{[]complex128{complex(0x1p1023, 0x1p1023), 0, 1}, 0, impl.ErrState, 1},
		// The size of the correction of a step that is made.
		{realList(0, 0x1p-10), complex(0x1p1023, 0x1p1023), impl.ErrLimit, 1},
	} {
		checkPolishRoot(t, c.p, c.z, 0, impl.Walk{Point: c.z}, impl.ErrNone)
		for most := range int64(4) {
			_, code := impl.PolishRoot(c.p, c.z, most)
			if most < c.first && code != impl.ErrNone {
				t.Errorf("PolishRoot(%v, %v, %d) has the code %d", c.p, c.z, most, code)
			} else if most >= c.first {
				checkPolishRoot(t, c.p, c.z, most, impl.Walk{}, c.code)
			}
		}
		checkPolishRoot(t, c.p, c.z, impl.MaxSteps, impl.Walk{}, c.code)
	}
	// Just finite: a new value, and a size of a correction of a step that is not made.
	checkPolishRoot(t, []complex128{1, 0x1p-10, complex(0x1p1002, 0x1p1002)}, 0, 1, impl.Walk{Still: true}, impl.ErrNone)
	checkPolishRoot(t, []complex128{1 + 1i, 0x1p-1023, 0x1p-1040}, 0, 1, impl.Walk{Still: true}, impl.ErrNone)
	checkNewton(t, []complex128{1 + 1i, 0x1p-1023, 0x1p-1040}, 0, complex(0x1p1023, 0x1p1023), impl.ErrNone)
}

// Operation by operation, with all codes.
func TestPolishingInOrder(t *testing.T) {
	r := newRandom(341)
	counts, still, notStill, steps := map[int64]int{}, 0, 0, 0
	for range 1500 {
		p, z := anyWalked(r)
		if r.IntN(4) == 0 {
			p, z = sparseWholes(r), append(wholeNumbers(r, 2), minusZeros...)[r.IntN(5)]
		}
		most := int64(r.IntN(12))
		var want impl.Walk
		code := codeInOrder(func() { want = inOrder{}.polished(p, z, most) })
		checkPolishRoot(t, p, z, most, want, code)
		counts[code]++
		if code == impl.ErrNone {
			steps += int(want.Steps)
			if want.Still {
				still++
			} else {
				notStill++
			}
		}
		if t.Failed() {
			return
		}
	}
	if counts[impl.ErrLimit] < 80 || counts[impl.ErrState] < 20 || still < 400 || notStill < 300 || steps < 2500 {
		t.Errorf("polishing has the codes %v, %d are still, and %d are not, with %d steps", counts, still, notStill, steps)
	}
}

// Polishing with MaxSteps steps: the root of x^2 is halved in each step.
func TestPolishingWithMaxSteps(t *testing.T) {
	for _, most := range []int64{1, 7, 199, impl.MaxSteps} {
		last := math.Ldexp(1, -int(most))
		checkPolishRoot(t, realList(0, 0, 1), 1, most, impl.Walk{Point: complex(last, 0), Steps: most, Last: last}, impl.ErrNone)
	}
}
