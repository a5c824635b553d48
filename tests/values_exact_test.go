package tests

import (
	"fmt"
	"slices"
	"testing"

	"loop.example/g01156/impl"
)

const (
	// Powers of 1 + small i have parts far apart in size.
	small = 0x1p-1000
	thin  = 3 * small
)

// farBelow are coefficients whose exact value at 3 / 2^1000 has, before the last step, c and 81 / 2^4000
// as a sum. The last step makes three times as much of it, and takes away what comes from c.
func farBelow(c float64) []complex128 {
	return []complex128{complex(-c*thin, 0), complex(c, 0), 0, 0, 0, 1}
}

// driftingFar are coefficients whose value at 1 + i / 2^1000 has an imaginary part that is off by
// 2^-53, while the exact one has bits of 2^-5000.
func driftingFar() []complex128 {
	return []complex128{0, -1i, -0x1p-53i, 0x1p-53i, 1i, 1}
}

// driftingBack are such coefficients, too, but the real part also has bits of 2^-5000: added up, the
// differences of both parts lose them.
func driftingBack() []complex128 {
	return []complex128{0, 1 - 1i, 0, -0x1p-53i, 0x1p-53i, -1 + 1i}
}

func TestExactValueOf(t *testing.T) {
	for _, c := range []struct {
		p      []complex128
		z      complex128
		re, im string
		code   int64
	}{
		{[]complex128{2, -3, 1}, 1i, "1p0", "-3p0", impl.ErrNone},
		{[]complex128{2, -3, 1}, 2, "0p0", "0p0", impl.ErrNone},
		{[]complex128{2, -3, 1}, 0, "1p1", "0p0", impl.ErrNone},
		{[]complex128{2, 3i}, 2, "1p1", "3p1", impl.ErrNone},
		{[]complex128{0.75, 1}, 0.25i, "3p-2", "1p-2", impl.ErrNone},
		{ones(13), 2, "8191p0", "0p0", impl.ErrNone},
		{ones(13), 1i, "1p0", "0p0", impl.ErrNone},
		{with(make([]complex128, 13), 12, 1), 0x1p400i, "1p4800", "0p0", impl.ErrNone},
		// -0 has the exact value 0.
		{[]complex128{complex(negative, negative), complex(0, negative), 1}, complex(negative, negative), "0p0", "0p0", impl.ErrNone},
		// What floats lose.
		{[]complex128{1, complex(tiny, 0)}, complex(0, -tiny), "1p0", "-1p-2148", impl.ErrNone},
		{[]complex128{-1, -0x1p53, 1, 0x1p53}, 1, "0p0", "0p0", impl.ErrNone},
		{[]complex128{-0x1p53, 1, 0x1p53}, 1, "1p0", "0p0", impl.ErrNone},
		{[]complex128{-1, 3}, 1.0 / 3, "-1p-54", "0p0", impl.ErrNone},
		// What is too large for floats, at the end or on the way.
		{[]complex128{1, 0x1p1000}, 0x1p1000 + 0x1p999i, "2^2000+1p0", "1p1999", impl.ErrNone},
		{[]complex128{complex(-huge, 0), complex(-huge, 0), complex(huge, 0)}, 2, "2^53-1p971", "0p0", impl.ErrNone},
		// The greatest and the least exponent, and those beyond.
		{[]complex128{0, 0, 0, 0, 0, 1}, 0x1p1000, "1p5000", "0p0", impl.ErrNone},
		{[]complex128{0, 0, 0, 0, 0, -1i}, 0x1p1000i, "1p5000", "0p0", impl.ErrNone},
		{[]complex128{0, 0, 0, 0, 0, 2}, 0x1p1000, "", "", impl.ErrLimit},
		{[]complex128{0, 0, 0, 0, 0, 1i}, small, "0p0", "1p-5000", impl.ErrNone},
		{[]complex128{0, 0, 0, 0, 0, 0.5}, small, "", "", impl.ErrLimit},
		{[]complex128{0, 0, 0, 0, 0, 0.5i}, small, "", "", impl.ErrLimit},
		{with(make([]complex128, 13), 12, complex(huge, 0)), complex(huge, -huge), "", "", impl.ErrLimit},
		{with(make([]complex128, 13), 12, complex(tiny, 0)), complex(tiny, 0), "", "", impl.ErrLimit},
		// 4800 bits, and one more.
		{[]complex128{1, 0, 0, 0, 0, 0x1p201}, small, "2^4799+1p-4799", "0p0", impl.ErrNone},
		{[]complex128{1, 0, 0, 0, 0, 0x1p200}, small, "", "", impl.ErrLimit},
		{[]complex128{1i, 0, 0, 0, 0, 0x1p201i}, small, "0p0", "2^4799+1p-4799", impl.ErrNone},
		{[]complex128{1i, 0, 0, 0, 0, 0x1p200i}, small, "", "", impl.ErrLimit},
		{[]complex128{-1, 0, 0, 0, 0, 0x1p200}, small, "-2^4800+1p-4800", "0p0", impl.ErrNone},
		{[]complex128{0, 0, 0, 0, 0, 0, 1}, 1 + small*1i, "", "", impl.ErrLimit},
		// Too large on the way: the first coefficient would take the upper bits away.
		{farBelow(0x1p798), thin, "243p-5000", "0p0", impl.ErrNone},
		{farBelow(0x1p799), thin, "", "", impl.ErrLimit},
	} {
		name := fmt.Sprintf("ExactValueOf(%v, %v)", c.p, c.z)
		e, code := impl.ExactValueOf(c.p, c.z)
		checkExact(t, name, e, code, wantedOf(c.re, c.code), wantedOf(c.im, c.code), c.code)
	}
	forPoints(t, 171, func(p []complex128, z complex128) {
		e, code := impl.ExactValueOf(p, z)
		re, im, wantCode := exactValueByParts(p, z)
		checkExact(t, fmt.Sprintf("ExactValueOf(%v, %v)", p, z), e, code, re, im, wantCode)
	})
}

func TestErrorOfValue(t *testing.T) {
	for _, c := range []struct {
		p    []complex128
		z    complex128
		want string
		code int64
	}{
		{[]complex128{2, -3, 1}, 1i, "0p0", impl.ErrNone},
		{ones(13), 2, "0p0", impl.ErrNone},
		{[]complex128{complex(negative, negative), -1}, 0, "0p0", impl.ErrNone},
		// Real and imaginary parts that are too small, too large, or one of each: errors do not cancel.
		{[]complex128{1, 1}, 0x1p-53, "1p-53", impl.ErrNone},
		{[]complex128{1i, 1i}, 0x1p-53, "1p-53", impl.ErrNone},
		{[]complex128{1, -1}, 0x1p-54, "1p-54", impl.ErrNone},
		{[]complex128{1i, -1i}, 0x1p-54, "1p-54", impl.ErrNone},
		{[]complex128{1 + 1i, 1 + 1i}, 0x1p-53, "1p-52", impl.ErrNone},
		{[]complex128{1 + 1i, 1 - 1i}, 0x1p-54, "1p-53", impl.ErrNone},
		{[]complex128{1 + 1i, -1 + 1i}, 0x1p-54, "1p-53", impl.ErrNone},
		{[]complex128{1 + 1i, -1 - 1i}, 0x1p-54, "1p-53", impl.ErrNone},
		{[]complex128{1 + 1i, 1 - 2i}, 0x1p-55, "3p-55", impl.ErrNone},
		{[]complex128{-1, -0x1p53, 1, 0x1p53}, 1, "1p0", impl.ErrNone},
		{[]complex128{-0x1p53, 1, 0x1p53}, 1, "1p0", impl.ErrNone},
		{[]complex128{-1, 3}, 1.0 / 3, "1p-54", impl.ErrNone},
		{[]complex128{0, complex(tiny, 0)}, complex(tiny, 0), "1p-2148", impl.ErrNone},
		{[]complex128{0, complex(-tiny, 0)}, complex(tiny, tiny), "1p-2147", impl.ErrNone},
		{farBelow(0x1p798), thin, "243p-5000", impl.ErrNone},
		// The value is not finite, and the exact one is not too large.
		{[]complex128{1, 0x1p1000}, 0x1p1000, "", impl.ErrLimit},
		{[]complex128{complex(-huge, 0), complex(-huge, 0), complex(huge, 0)}, 2, "", impl.ErrLimit},
		// The exact value is too large, and the value is finite.
		{[]complex128{1, 0, 0, 0, 0, 0x1p200}, small, "", impl.ErrLimit},
		{[]complex128{1, 0, 0, 0, 0, 0x1p201}, small, "1p-4799", impl.ErrNone},
		{farBelow(0x1p799), thin, "", impl.ErrLimit},
		// A difference is too large.
		{driftingFar(), 1 + small*1i, "", impl.ErrLimit},
		{timesUnit(driftingFar()), 1 + small*1i, "", impl.ErrLimit},
		{driftingBack(), 1 + small*1i, "", impl.ErrLimit},
		// The sum of both differences is too large: 2^-53 and less than 2^-2990, with bits of 2^-5000.
		{[]complex128{0x1p-53, 0, 0, 0, 0, 1}, 1 + small*1i, "", impl.ErrLimit},
		{[]complex128{0x1p-53i, 0, 0, 0, 0, 1i}, 1 + small*1i, "", impl.ErrLimit},
	} {
		d, code := impl.ErrorOfValue(c.p, c.z)
		checkDyadic(t, fmt.Sprintf("ErrorOfValue(%v, %v)", c.p, c.z), d, code, wantedOf(c.want, c.code), c.code)
	}
	// With differences that fit, and the sum of them does so, too.
	for _, p := range [][]complex128{{0x1p-53, 0, 0, 0, 1}, {0, 0, 0, 0, 0, 1}} {
		d, code := impl.ErrorOfValue(p, 1+small*1i)
		want, wantCode := errorByParts(p, 1+small*1i)
		if wantCode != impl.ErrNone {
			t.Errorf("the error for %v is told to be too large", p)
		}
		checkDyadic(t, fmt.Sprintf("ErrorOfValue(%v)", p), d, code, want, impl.ErrNone)
	}
	forPoints(t, 172, func(p []complex128, z complex128) {
		d, code := impl.ErrorOfValue(p, z)
		want, wantCode := errorByParts(p, z)
		checkDyadic(t, fmt.Sprintf("ErrorOfValue(%v, %v)", p, z), d, code, want, wantCode)
	})
}

// timesUnit is the list with each number multiplied by the imaginary unit.
func timesUnit(list []complex128) []complex128 {
	var turned []complex128
	for _, z := range list {
		turned = append(turned, complex(-imag(z), real(z)))
	}
	return turned
}

// Errors that are too large have exact values and values that are not.
func TestErrorsThatAreTooLargeByThemselves(t *testing.T) {
	for _, p := range [][]complex128{driftingFar(), driftingBack(), {0x1p-53, 0, 0, 0, 0, 1}} {
		for _, q := range [][]complex128{p, timesUnit(p)} {
			if _, code := impl.ValueOf(q, 1+small*1i); code != impl.ErrNone {
				t.Errorf("ValueOf(%v): code %d", q, code)
			}
			if _, code := impl.ExactValueOf(q, 1+small*1i); code != impl.ErrNone {
				t.Errorf("ExactValueOf(%v): code %d", q, code)
			}
		}
	}
	value, _ := valueByParts(driftingBack(), 1+small*1i)
	re, im, _ := exactValueByParts(driftingBack(), 1+small*1i)
	re, im = absoluteOf(minus(re, valueOf(real(value)))), absoluteOf(minus(im, valueOf(imag(value))))
	if dyadicCode(re) != impl.ErrNone || dyadicCode(im) != impl.ErrLimit || dyadicCode(plus(re, im)) != impl.ErrNone {
		t.Errorf("the differences for %v, and their sum, are not as told", driftingBack())
	}
}

func TestIsExactRoot(t *testing.T) {
	for _, c := range []struct {
		p    []complex128
		z    complex128
		want bool
		code int64
	}{
		{[]complex128{2, -3, 1}, 2, true, impl.ErrNone},
		{[]complex128{2, -3, 1}, 1, true, impl.ErrNone},
		{[]complex128{2, -3, 1}, 3, false, impl.ErrNone},
		{[]complex128{2, -3, 1}, 1i, false, impl.ErrNone},
		{[]complex128{2, -3, 1}, complex(2, tiny), false, impl.ErrNone},
		{[]complex128{1, 0, 1}, -1i, true, impl.ErrNone},
		{[]complex128{0, 1}, 0, true, impl.ErrNone},
		{[]complex128{0, 1}, complex(negative, negative), true, impl.ErrNone},
		{[]complex128{0, 1}, complex(0, tiny), false, impl.ErrNone},
		{[]complex128{-0.1i, 1}, 0.1i, true, impl.ErrNone},
		{with(with(make([]complex128, 13), 12, 1), 0, -1), 1i, true, impl.ErrNone},
		{ones(13), -1, false, impl.ErrNone},
		// Just one of both parts is 0.
		{[]complex128{1i, 1}, 0, false, impl.ErrNone},
		{[]complex128{1, 1}, 0, false, impl.ErrNone},
		// Roots whose values are not 0, or not finite on the way.
		{[]complex128{-1, -0x1p53, 1, 0x1p53}, 1, true, impl.ErrNone},
		{[]complex128{-0x1p-53, -1, 0x1p-53, 1}, 1, true, impl.ErrNone},
		{[]complex128{complex(-huge, 0), complex(-huge, 0), complex(huge, 0), complex(huge, 0)}, 1, true, impl.ErrNone},
		// Values that are 0 at numbers that are no roots.
		{[]complex128{-0x1p53, 1, 0x1p53}, 1, false, impl.ErrNone},
		{[]complex128{-1, 3}, 1.0 / 3, false, impl.ErrNone},
		{[]complex128{0, complex(tiny, 0)}, complex(tiny, 0), false, impl.ErrNone},
		{farBelow(0x1p798), thin, false, impl.ErrNone},
		// Exact numbers that are too large, at the end or on the way.
		{[]complex128{0, 0, 0, 0, 0, 2}, 0x1p1000, false, impl.ErrLimit},
		{farBelow(0x1p799), thin, false, impl.ErrLimit},
	} {
		name := fmt.Sprintf("IsExactRoot(%v, %v)", c.p, c.z)
		checkBool(t, name, impl.IsExactRoot, c.p, c.z, c.want, c.code)
	}
	forPoints(t, 173, func(p []complex128, z complex128) {
		re, im, code := exactValueByParts(p, z)
		want := code == impl.ErrNone && re.whole.Sign() == 0 && im.whole.Sign() == 0
		checkBool(t, fmt.Sprintf("IsExactRoot(%v, %v)", p, z), impl.IsExactRoot, p, z, want, code)
	})
}

// The values at the roots of TestIsExactRoot that floats miss, and at its numbers that are no roots.
func TestRootsAndValuesByFloats(t *testing.T) {
	for _, c := range []valueCase{
		{[]complex128{-1, -0x1p53, 1, 0x1p53}, 1, -1, impl.ErrNone},
		{[]complex128{-0x1p-53, -1, 0x1p-53, 1}, 1, -0x1p-53, impl.ErrNone},
		{[]complex128{complex(-huge, 0), complex(-huge, 0), complex(huge, 0), complex(huge, 0)}, 1, 0, impl.ErrLimit},
		{[]complex128{-0x1p53, 1, 0x1p53}, 1, 0, impl.ErrNone},
		{[]complex128{-1, 3}, 1.0 / 3, 0, impl.ErrNone},
		{[]complex128{0, complex(tiny, 0)}, complex(tiny, 0), 0, impl.ErrNone},
		{farBelow(0x1p798), thin, 0, impl.ErrNone},
	} {
		value, code := impl.ValueOf(slices.Clone(c.p), c.z)
		checkWide(t, fmt.Sprintf("ValueOf(%v, %v)", c.p, c.z), value, code, c.want, c.code)
	}
}
