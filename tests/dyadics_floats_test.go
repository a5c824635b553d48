package tests

import (
	"fmt"
	"math"
	"math/big"
	"testing"

	"loop.example/g01156/impl"
)

func TestDyadicOf(t *testing.T) {
	for text, x := range map[string]float64{
		"0p0": 0, "1p0": 1, "-1p0": -1, "3p-2": 0.75, "-1p10": -1024, "3602879701896397p-55": 0.1,
		"1p-1074": tiny, "-1p-1074": -tiny, "3p-1074": 3 * tiny, "2^52-1p-1074": 0x0.fffffffffffffp-1022,
		"1p-1022": 0x1p-1022, "2^52+1p-1074": 0x1.0000000000001p-1022, "-1p-1023": -0x1p-1023,
		"2^53-1p971": huge, "-2^53+1p971": -huge, "1p1023": 0x1p1023, "2^53-1p0": 1<<53 - 1, "1p53": 1 << 53,
	} {
		d, code := impl.DyadicOf(x)
		checkDyadic(t, fmt.Sprintf("DyadicOf(%g)", x), d, code, number(text), impl.ErrNone)
	}
	d, code := impl.DyadicOf(negative)
	checkDyadic(t, "DyadicOf(-0)", d, code, number("0p0"), impl.ErrNone)
	r := newRandom(51)
	for range 5000 {
		x := anyFloat(r)
		d, code := impl.DyadicOf(x)
		checkDyadic(t, fmt.Sprintf("DyadicOf(%g)", x), d, code, valueOf(x), impl.ErrNone)
	}
	for _, x := range []float64{nan, inf, -inf, math.Float64frombits(0x7ff0000000000001)} {
		d, code := impl.DyadicOf(x)
		checkDyadic(t, fmt.Sprintf("DyadicOf(%g)", x), d, code, binary{}, impl.ErrInvalid)
	}
}

func TestDyadicOfNarrow(t *testing.T) {
	for text, x := range map[string]float32{
		"0p0": 0, "1p0": 1, "-1p0": -1, "3p-2": 0.75, "-1p10": -1024, "13421773p-27": 0.1,
		"1p-149": tinyNarrow, "-1p-149": -tinyNarrow, "3p-149": 3 * tinyNarrow, "2^23-1p-149": 0x0.fffffep-126,
		"1p-126": 0x1p-126, "2^23+1p-149": 0x1.000002p-126, "-1p-127": -0x1p-127,
		"2^24-1p104": hugeNarrow, "-2^24+1p104": -hugeNarrow, "1p127": 0x1p127, "2^24-1p0": 1<<24 - 1, "1p24": 1 << 24,
	} {
		d, code := impl.DyadicOfNarrow(x)
		checkDyadic(t, fmt.Sprintf("DyadicOfNarrow(%g)", x), d, code, number(text), impl.ErrNone)
	}
	d, code := impl.DyadicOfNarrow(negativeNarrow)
	checkDyadic(t, "DyadicOfNarrow(-0)", d, code, number("0p0"), impl.ErrNone)
	r := newRandom(52)
	for range 5000 {
		x := anyFloatNarrow(r)
		d, code := impl.DyadicOfNarrow(x)
		checkDyadic(t, fmt.Sprintf("DyadicOfNarrow(%g)", x), d, code, valueOf(float64(x)), impl.ErrNone)
	}
	for _, x := range []float32{float32(nan), float32(inf), float32(-inf)} {
		d, code := impl.DyadicOfNarrow(x)
		checkDyadic(t, fmt.Sprintf("DyadicOfNarrow(%g)", x), d, code, binary{}, impl.ErrInvalid)
	}
}

type roundCase struct {
	d    string
	want float64
	code int64
}

// checkRounding checks the cases with both signs.
func checkRounding(t *testing.T, name string, f func(impl.Dyadic) (float64, int64), cases []roundCase) {
	t.Helper()
	for _, c := range cases {
		x, code := f(dyadic(c.d))
		checkFloat(t, fmt.Sprintf("%s(%s)", name, c.d), x, code, c.want, c.code)
		if c.d == "0p0" {
			continue
		}
		x, code = f(dyadicOf(negated(number(c.d))))
		checkFloat(t, fmt.Sprintf("%s(%s with the other sign)", name, c.d), x, code, -c.want, c.code)
	}
}

func TestFloatOf(t *testing.T) {
	checkRounding(t, "FloatOf", impl.FloatOf, []roundCase{
		{"0p0", 0, impl.ErrNone},
		{"3p-2", 0.75, impl.ErrNone},
		{"-1p10", -1024, impl.ErrNone},
		// Ties.
		{"2^53-1p0", 0x1p53 - 1, impl.ErrNone},
		{"2^53+1p0", 0x1p53, impl.ErrNone},
		{"2^53+3p0", 0x1p53 + 4, impl.ErrNone},
		{"2^54-1p0", 0x1p54, impl.ErrNone},
		{"2^54+1p0", 0x1p54, impl.ErrNone},
		{"2^54+2p0", 0x1p54, impl.ErrNone},
		{"2^54+3p0", 0x1p54 + 4, impl.ErrNone},
		{"2^54+6p0", 0x1p54 + 8, impl.ErrNone},
		{"2^54+10p0", 0x1p54 + 8, impl.ErrNone},
		{"2^153+1p-153", 1, impl.ErrNone},
		{"2^153-1p-153", 1, impl.ErrNone},
		{"2^4800-1p-4800", 1, impl.ErrNone},
		// Numbers that are subnormal, or round to 0.
		{"1p-1074", tiny, impl.ErrNone},
		{"1p-1075", 0, impl.ErrNone},
		{"3p-1076", tiny, impl.ErrNone},
		{"3p-1075", 2 * tiny, impl.ErrNone},
		{"5p-1075", 2 * tiny, impl.ErrNone},
		{"5p-1076", tiny, impl.ErrNone},
		{"7p-1076", 2 * tiny, impl.ErrNone},
		{"2^100+1p-1175", tiny, impl.ErrNone},
		{"2^100-1p-1175", 0, impl.ErrNone},
		{"2^3900-1p-4975", 0, impl.ErrNone},
		{"2^3900+1p-4975", tiny, impl.ErrNone},
		{"1p-1076", 0, impl.ErrNone},
		{"1p-5000", 0, impl.ErrNone},
		{"2^52-1p-1074", 0x0.fffffffffffffp-1022, impl.ErrNone},
		{"2^52+1p-1074", 0x1.0000000000001p-1022, impl.ErrNone},
		{"2^53-1p-1075", 0x1p-1022, impl.ErrNone},
		{"2^53-3p-1075", 0x0.ffffffffffffep-1022, impl.ErrNone},
		{"2^53+1p-1075", 0x1p-1022, impl.ErrNone},
		{"2^4800-1p-5000", 0x1p-200, impl.ErrNone},
		// Numbers below and at 2^1024.
		{"1p1023", 0x1p1023, impl.ErrNone},
		{"2^53-1p971", huge, impl.ErrNone},
		{"2^54-3p970", 0x1.ffffffffffffep1023, impl.ErrNone},
		{"2^55-3p969", huge, impl.ErrNone},
		{"2^54-1p970", 0, impl.ErrLimit},
		{"1p1024", 0, impl.ErrLimit},
		{"2^53+1p971", 0, impl.ErrLimit},
		{"2^4800-1p-3776", 0, impl.ErrLimit},
		{"1p5000", 0, impl.ErrLimit},
		{"2^4800-1p5000", 0, impl.ErrLimit},
	})
	almost := minus(number("2^54-1p970"), number("1p-3000"))
	x, code := impl.FloatOf(dyadicOf(almost))
	checkFloat(t, "FloatOf just below the half way to 2^1024", x, code, huge, impl.ErrNone)
	x, code = impl.FloatOf(dyadicOf(negated(almost)))
	checkFloat(t, "FloatOf just above the half way to -2^1024", x, code, -huge, impl.ErrNone)
}

func TestFloatOfIsRounded(t *testing.T) {
	forBinaries(t, 53, func(b binary) {
		want, _ := floatOf(b).Float64()
		x, code := impl.FloatOf(dyadicOf(b))
		checkFloat(t, fmt.Sprintf("FloatOf(%v)", b), x, code, want, codeOf(complex(want, 0)))
	})
}

// floatOfNarrow is FloatOfNarrow with a result that is widened.
func floatOfNarrow(d impl.Dyadic) (float64, int64) {
	x, code := impl.FloatOfNarrow(d)
	return float64(x), code
}

func TestFloatOfNarrow(t *testing.T) {
	checkRounding(t, "FloatOfNarrow", floatOfNarrow, []roundCase{
		{"0p0", 0, impl.ErrNone},
		{"3p-2", 0.75, impl.ErrNone},
		{"-1p10", -1024, impl.ErrNone},
		{"3602879701896397p-55", float64(float32(0.1)), impl.ErrNone},
		// Ties.
		{"2^24-1p0", 0x1p24 - 1, impl.ErrNone},
		{"2^24+1p0", 0x1p24, impl.ErrNone},
		{"2^24+3p0", 0x1p24 + 4, impl.ErrNone},
		{"2^25-1p0", 0x1p25, impl.ErrNone},
		{"2^25+2p0", 0x1p25, impl.ErrNone},
		{"2^25+3p0", 0x1p25 + 4, impl.ErrNone},
		{"2^25+6p0", 0x1p25 + 8, impl.ErrNone},
		{"2^4800-1p-4800", 1, impl.ErrNone},
		// Numbers that are subnormal, or round to 0.
		{"1p-149", 0x1p-149, impl.ErrNone},
		{"1p-150", 0, impl.ErrNone},
		{"3p-151", 0x1p-149, impl.ErrNone},
		{"3p-150", 0x1p-148, impl.ErrNone},
		{"5p-150", 0x1p-148, impl.ErrNone},
		{"7p-151", 0x1p-148, impl.ErrNone},
		{"1p-1074", 0, impl.ErrNone},
		{"1p-5000", 0, impl.ErrNone},
		{"2^23-1p-149", 0x0.fffffep-126, impl.ErrNone},
		{"2^24-1p-150", 0x1p-126, impl.ErrNone},
		{"2^24-3p-150", 0x0.fffffcp-126, impl.ErrNone},
		{"2^24+1p-150", 0x1p-126, impl.ErrNone},
		// Numbers that would be rounded in another way if they were rounded to 64 bits first.
		{"2^59+1p-209", 0x1p-149, impl.ErrNone},
		{"2^59-1p-209", 0, impl.ErrNone},
		{"2^100+1p-250", 0x1p-149, impl.ErrNone},
		// Numbers below and at 2^128.
		{"1p127", 0x1p127, impl.ErrNone},
		{"2^24-1p104", 0x1.fffffep127, impl.ErrNone},
		{"2^25-3p103", 0x1.fffffcp127, impl.ErrNone},
		{"2^26-3p102", 0x1.fffffep127, impl.ErrNone},
		{"2^25-1p103", 0, impl.ErrLimit},
		{"1p128", 0, impl.ErrLimit},
		{"2^24+1p104", 0, impl.ErrLimit},
		{"2^53-1p971", 0, impl.ErrLimit},
		{"2^4800-1p-4672", 0, impl.ErrLimit},
		{"1p5000", 0, impl.ErrLimit},
	})
	above := plus(number("2^24+1p-24"), number("1p-90"))
	x, code := impl.FloatOfNarrow(dyadicOf(above))
	checkFloat(t, "FloatOfNarrow just above 1 + 2^-24", float64(x), code, 0x1.000002p0, impl.ErrNone)
	almost := minus(number("2^25-1p103"), number("1p-3000"))
	x, code = impl.FloatOfNarrow(dyadicOf(almost))
	checkFloat(t, "FloatOfNarrow just below the half way to 2^128", float64(x), code, 0x1.fffffep127, impl.ErrNone)
}

func TestFloatOfNarrowIsRounded(t *testing.T) {
	forBinaries(t, 54, func(b binary) {
		want, _ := floatOf(b).Float32()
		x, code := floatOfNarrow(dyadicOf(b))
		checkFloat(t, fmt.Sprintf("FloatOfNarrow(%v)", b), x, code, float64(want), codeOf(complex(float64(want), 0)))
	})
}

// distance is the absolute value of the difference of an exact number and a float; that of a float
// that is infinite is the one of 2^end.
func distance(b binary, x float64, end int64) binary {
	value := binary{big.NewInt(1), end}
	if x-x == 0 {
		value = valueOf(x)
	} else if x < 0 {
		value = negated(value)
	}
	gap := minus(b, value)
	return binary{gap.whole.Abs(gap.whole), gap.exponent}
}

func compare(a, b binary) int {
	return minus(a, b).whole.Sign()
}

// isNearest reports whether x is at most as far from b as its neighbour, and farther from it only
// if x is even.
func isNearest(b binary, x, neighbour float64, isEven bool, end int64) bool {
	order := compare(distance(b, x, end), distance(b, neighbour, end))
	return order < 0 || order == 0 && isEven
}

// The rounding that the document tells, without that of package big.
func TestFloatsAreNearest(t *testing.T) {
	forBinaries(t, 55, func(b binary) {
		x, code := impl.FloatOf(dyadicOf(b))
		if code == impl.ErrNone {
			for _, side := range []float64{inf, -inf} {
				if !isNearest(b, x, math.Nextafter(x, side), math.Float64bits(x)&1 == 0, 1024) {
					t.Errorf("FloatOf(%v) = %g is not the nearest", b, x)
				}
			}
		}
		y, code := impl.FloatOfNarrow(dyadicOf(b))
		if code == impl.ErrNone {
			for _, side := range []float32{float32(inf), float32(-inf)} {
				next := float64(math.Nextafter32(y, side))
				if !isNearest(b, float64(y), next, math.Float32bits(y)&1 == 0, 128) {
					t.Errorf("FloatOfNarrow(%v) = %g is not the nearest", b, y)
				}
			}
		}
	})
}

func TestExactOfAndNumberOf(t *testing.T) {
	r := newRandom(56)
	numbers := []complex128{
		0, 1, 1i, 3 - 5i, complex(0.75, -1024), complex(negative, negative), complex(tiny, -tiny), complex(huge, -huge),
		complex(-huge, tiny), complex(negative, 1),
	}
	for range 2000 {
		numbers = append(numbers, anyWide(r))
	}
	for _, z := range numbers {
		e, code := impl.ExactOf(z)
		checkExact(t, fmt.Sprintf("ExactOf(%v)", z), e, code, valueOf(real(z)), valueOf(imag(z)), impl.ErrNone)
		y, code := impl.NumberOf(e)
		// The exact value of -0 is 0.
		checkWide(t, fmt.Sprintf("NumberOf of the value of %v", z), y, code, complex(real(z)+0, imag(z)+0), impl.ErrNone)
	}
	for _, x := range []float64{nan, inf, -inf} {
		for _, z := range []complex128{complex(x, 1), complex(1, x), complex(x, x)} {
			e, code := impl.ExactOf(z)
			checkExact(t, fmt.Sprintf("ExactOf(%v)", z), e, code, binary{}, binary{}, impl.ErrInvalid)
		}
	}
}

func TestNumberOfIsRounded(t *testing.T) {
	cases := []struct {
		re, im string
		want   complex128
		code   int64
	}{
		{"2^53+1p0", "2^53+3p0", complex(0x1p53, 0x1p53+4), impl.ErrNone},
		{"-1p-1075", "1p-1075", complex(negative, 0), impl.ErrNone},
		{"1p-5000", "-1p-5000", complex(0, negative), impl.ErrNone},
		{"0p0", "0p0", 0, impl.ErrNone},
		{"2^55-3p969", "-2^53+1p971", complex(huge, -huge), impl.ErrNone},
		{"2^54-1p970", "1p0", 0, impl.ErrLimit},
		{"1p0", "-1p1024", 0, impl.ErrLimit},
		{"1p5000", "1p5000", 0, impl.ErrLimit},
	}
	for _, c := range cases {
		z, code := impl.NumberOf(impl.Exact{Real: dyadic(c.re), Imag: dyadic(c.im)})
		checkWide(t, fmt.Sprintf("NumberOf(%s, %s)", c.re, c.im), z, code, c.want, c.code)
	}
	forBinaryPairs(t, 57, func(a, b binary) {
		re, _ := floatOf(a).Float64()
		im, _ := floatOf(b).Float64()
		z, code := impl.NumberOf(impl.Exact{Real: dyadicOf(a), Imag: dyadicOf(b)})
		checkWide(t, fmt.Sprintf("NumberOf(%v, %v)", a, b), z, code, complex(re, im), codeOf(complex(re, im)))
	})
}
