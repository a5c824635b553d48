package tests

import (
	"fmt"
	"math"
	"math/rand/v2"
	"slices"
	"strings"
	"testing"

	"loop.example/g01156/impl"
)

func TestCommonPart(t *testing.T) {
	hugeBoth := complex(huge, -huge)
	for _, c := range []struct {
		p, q      []complex128
		tolerance float64
		want      []complex128
		code      int64
	}{
		{[]complex128{2, -3, 1}, []complex128{-1, 0, 1}, 0, []complex128{complex(-1, negative), 1}, impl.ErrNone},
		{[]complex128{-1, 0, 1}, []complex128{2, -3, 1}, 0, []complex128{-1, 1}, impl.ErrNone},
		{[]complex128{2, -3, 1}, []complex128{3, 1}, 0, []complex128{1}, impl.ErrNone},
		{[]complex128{2, -3, 1}, []complex128{4, -6, 2}, 0, []complex128{2, -3, 1}, impl.ErrNone},
		{[]complex128{4, -6, 2}, []complex128{4, -6, 2}, 0, []complex128{2, -3, 1}, impl.ErrNone},
		{ones(13), ones(13), 0, ones(13), impl.ErrNone},
		{ones(13), ones(12), 0, []complex128{1}, impl.ErrNone},
		{[]complex128{0, 0, 0, 2}, []complex128{0, 3, 3}, 0, []complex128{0, 1}, impl.ErrNone},
		// The first one is shorter: the remainder is all of it, or what the tolerance leaves of it.
		{[]complex128{1, 1}, []complex128{1, 2, 1}, 0, []complex128{1, 1}, impl.ErrNone},
		{[]complex128{0.25, 0.25}, []complex128{1, 0, 4}, 0.25, []complex128{0.25, 0, 1}, impl.ErrNone},
		{[]complex128{0.5, 0.25}, []complex128{1, 0, 4}, 0.25, []complex128{1}, impl.ErrNone},
		{[]complex128{0.25, 0.5}, []complex128{1, 0, 4}, 0.25, []complex128{1}, impl.ErrNone},
		// Sizes that are equal to the tolerance, and greater ones.
		{[]complex128{0.5 - 0.5i, 0, 1}, []complex128{0, 2}, 1, []complex128{0, 1}, impl.ErrNone},
		{[]complex128{0.5 - 0.5i, 0, 1}, []complex128{0, 2}, math.Nextafter(1, 0), []complex128{1}, impl.ErrNone},
		{[]complex128{complex(1, tiny), 0, 1}, []complex128{0, 2}, 1, []complex128{0, 1}, impl.ErrNone},
		{[]complex128{complex(1, 0x1p-52), 0, 1}, []complex128{0, 2}, 1, []complex128{1}, impl.ErrNone},
		{[]complex128{complex(-tiny, 0), 0, 1}, []complex128{0, 2}, 0, []complex128{1}, impl.ErrNone},
		{[]complex128{complex(-tiny, 0), 0, 1}, []complex128{0, 2}, tiny, []complex128{0, 1}, impl.ErrNone},
		{[]complex128{complex(0, tiny), 0, 1}, []complex128{0, 2}, negative, []complex128{1}, impl.ErrNone},
		{[]complex128{complex(negative, negative), 0, 1}, []complex128{0, 2}, negative, []complex128{0, 1}, impl.ErrNone},
		// Small coefficients at the end are left out, one after the other, up to one that is not small.
		{[]complex128{3, 0.5, 0.5, 1}, []complex128{0, 0, 0, 1}, 0.5, []complex128{1}, impl.ErrNone},
		{[]complex128{0.5, 3, 0.5, 1}, []complex128{0, 0, 0, 1}, 0.5, []complex128{1.0 / 6, 1}, impl.ErrNone},
		{[]complex128{0.5, 3, 0.5, 1}, []complex128{0, 0, 0, 1}, 0, []complex128{1}, impl.ErrNone},
		{[]complex128{0, 3, 0.5, 1}, []complex128{0, 0, 0, 1}, 0.5, []complex128{0, 1}, impl.ErrNone},
		{[]complex128{0.5, 0.5, 3, 1}, []complex128{0, 0, 0, 1}, 0.5, []complex128{1.0 / 6, 1.0 / 6, 1}, impl.ErrNone},
		{[]complex128{0.5, 0.5, 0.5, 1}, []complex128{0, 0, 0, 2}, 0.5, []complex128{0, 0, 0, 1}, impl.ErrNone},
		// Sizes that are not finite are greater.
		{[]complex128{hugeBoth, 0, 1}, []complex128{0, 2}, 1, []complex128{1}, impl.ErrNone},
		// Just the remainders are compared with the tolerance.
		{[]complex128{0, 0.5}, []complex128{0, 0.25}, 1, []complex128{0, 1}, impl.ErrNone},
		// Numbers that are not finite, in divisions and in the last quotients.
		{[]complex128{1, complex(huge, 0)}, []complex128{0, 0.5}, 0, nil, impl.ErrLimit},
		{[]complex128{complex(huge, 0), 1e-300}, []complex128{complex(huge, 0), 1e-300}, 0, nil, impl.ErrLimit},
		{[]complex128{1, 1e200}, []complex128{1e200, 1}, 1, nil, impl.ErrLimit},
	} {
		list, code := impl.CommonPart(c.p, c.q, c.tolerance)
		checkCoefficients(t, fmt.Sprintf("CommonPart(%v, %v, %g)", c.p, c.q, c.tolerance), list, code, c.want, c.code)
	}
}

func TestCommonPartsByParts(t *testing.T) {
	check := func(p, q []complex128, tolerance float64) {
		t.Helper()
		list, code := impl.CommonPart(p, q, tolerance)
		want, wantCode := commonByParts(p, q, tolerance)
		checkCoefficients(t, fmt.Sprintf("CommonPart(%v, %v, %g)", p, q, tolerance), list, code, want, wantCode)
	}
	forPolynomials(t, 121, func(r *rand.Rand, p []complex128) {
		tolerance := []float64{0, 1, r.Float64(), math.Ldexp(1, -r.IntN(60))}[r.IntN(4)]
		check(p, anyPolynomial(r), tolerance)
		check(sparse(r, 13), sparse(r, 8), tolerance)
		// With a factor in common.
		factor := smallMonic(r, 2+r.IntN(3))
		a, _ := productOfParts(factor, smallMonic(r, 1+r.IntN(5)))
		b, _ := productOfParts(factor, smallMonic(r, 1+r.IntN(5)))
		check(a, b, tolerance)
	})
}

func TestCommonPartHasATolerance(t *testing.T) {
	p, bad := []complex128{2, -3, 1}, []complex128{2, -3, 0}
	for _, c := range []struct {
		tolerance float64
		code      int64
	}{
		{0, impl.ErrNone}, {negative, impl.ErrNone}, {tiny, impl.ErrNone}, {1, impl.ErrNone},
		{-tiny, impl.ErrRange}, {math.Nextafter(1, 2), impl.ErrRange}, {-1, impl.ErrRange}, {huge, impl.ErrRange}, {-huge, impl.ErrRange},
		{nan, impl.ErrInvalid}, {inf, impl.ErrInvalid}, {-inf, impl.ErrInvalid},
	} {
		name := fmt.Sprintf("CommonPart with the tolerance %g", c.tolerance)
		list, code := impl.CommonPart(p, p, c.tolerance)
		checkCoefficients(t, name, list, code, p, c.code)
		list, code = impl.CommonPart(p, bad, c.tolerance)
		checkCoefficients(t, name, list, code, nil, impl.ErrInvalid)
		list, code = impl.CommonPart(bad, p, c.tolerance)
		checkCoefficients(t, name, list, code, nil, impl.ErrInvalid)
	}
}

func TestNarrowPolynomial(t *testing.T) {
	minus := complex(negative, negative)
	limit := float64(math.MaxFloat32)
	for _, c := range []struct {
		p, want []complex128
		code    int64
	}{
		{[]complex128{2, -3, 1}, []complex128{2, -3, 1}, impl.ErrNone},
		{[]complex128{minus, 0.1i}, []complex128{minus, complex(0, float64(float32(0.1)))}, impl.ErrNone},
		{ones(13), ones(13), impl.ErrNone},
		{[]complex128{1 + 0x1p-24, 1 + 0x1.8p-23}, []complex128{1, 1 + 0x1p-22}, impl.ErrNone},
		// What becomes 0.
		{[]complex128{complex(-1e-60, 1e-60), 1e-60, 1}, []complex128{complex(negative, 0), 0, 1}, impl.ErrNone},
		{[]complex128{1, 1e-60}, nil, impl.ErrLimit},
		{[]complex128{1, complex(-1e-60, 1e-60)}, nil, impl.ErrLimit},
		{[]complex128{1, 0x1p-150}, nil, impl.ErrLimit},
		{[]complex128{1, complex(0, math.Nextafter(0x1p-150, 1))}, []complex128{1, 0x1p-149i}, impl.ErrNone},
		{[]complex128{1, complex(1e-60, 1)}, []complex128{1, 1i}, impl.ErrNone},
		// What becomes too large.
		{[]complex128{complex(limit, -limit), 1}, []complex128{complex(limit, -limit), 1}, impl.ErrNone},
		{[]complex128{complex(math.Nextafter(0x1.ffffffp127, 0), 0), 1}, []complex128{complex(limit, 0), 1}, impl.ErrNone},
		{[]complex128{0x1.ffffffp127, 1}, nil, impl.ErrLimit},
		{[]complex128{1, complex(0, -huge)}, nil, impl.ErrLimit},
		{[]complex128{1, complex(1, -1e39), 1e-60}, nil, impl.ErrLimit},
	} {
		list, code := impl.NarrowPolynomial(c.p)
		checkCoefficients(t, fmt.Sprintf("NarrowPolynomial(%v)", c.p), wideList(list), code, c.want, c.code)
	}
	forPolynomials(t, 122, func(_ *rand.Rand, p []complex128) {
		list, code := impl.NarrowPolynomial(p)
		want, wantCode := narrowList(p), int64(impl.ErrNone)
		for n, z := range want {
			if codeOf(complex128(z)) != impl.ErrNone || n == len(want)-1 && z == 0 {
				wantCode = impl.ErrLimit
			}
		}
		checkCoefficients(t, fmt.Sprintf("NarrowPolynomial(%v)", p), wideList(list), code, wideList(want), wantCode)
	})
}

func TestWidePolynomial(t *testing.T) {
	good := [][]complex64{
		{2, -3, 1}, {1, complex(0, tinyNarrow)}, {complex(negativeNarrow, negativeNarrow), complex(hugeNarrow, -hugeNarrow)}, narrowList(ones(13)),
		{complex(0.1, 0), complex(-0.1, 1e-40)},
	}
	for _, p := range good {
		list, code := impl.WidePolynomial(p)
		checkCoefficients(t, fmt.Sprintf("WidePolynomial(%v)", p), list, code, wideList(p), impl.ErrNone)
	}
	for _, p := range badPolynomials() {
		list, code := impl.WidePolynomial(narrowList(p))
		checkCoefficients(t, fmt.Sprintf("WidePolynomial(%v)", p), list, code, nil, impl.ErrInvalid)
	}
}

func TestEqualPolynomials(t *testing.T) {
	for _, c := range []struct {
		p, q []complex128
		want bool
	}{
		{[]complex128{2, -3, 1}, []complex128{2, -3, 1}, true},
		{[]complex128{2, -3, 1}, []complex128{2, -3, 2}, false},
		{[]complex128{2, -3, 1}, []complex128{2, -3}, false},
		{[]complex128{2, -3}, []complex128{2, -3, 1}, false},
		{[]complex128{2, -3, 1}, []complex128{2 + 1i, -3, 1}, false},
		{[]complex128{2, -3, 1}, []complex128{2, -3, complex(1, tiny)}, false},
		{[]complex128{0, 0, complex(1, 0)}, []complex128{complex(negative, negative), complex(0, negative), complex(1, negative)}, true},
		{[]complex128{1, 1 + 0x1p-52}, []complex128{1, 1}, false},
		{ones(13), ones(13), true},
		{ones(13), with(ones(13), 0, 2), false},
		{ones(13), ones(12), false},
	} {
		same, code := impl.EqualPolynomials(c.p, c.q)
		if same != c.want || code != impl.ErrNone {
			t.Errorf("EqualPolynomials(%v, %v) = %v, %d", c.p, c.q, same, code)
		}
	}
}

func TestPolynomialText(t *testing.T) {
	for _, c := range []struct {
		p    []complex128
		want string
	}{
		{[]complex128{2, -3, 1}, "1p1,0p0;-3p0,0p0;1p0,0p0"},
		{[]complex128{0.75 - 12i, 1i}, "3p-2,-3p2;0p0,1p0"},
		{[]complex128{complex(negative, negative), complex(negative, tiny)}, "0p0,0p0;0p0,1p-1074"},
		{[]complex128{0, complex(huge, -huge)}, "0p0,0p0;9007199254740991p971,-9007199254740991p971"},
		{[]complex128{0.1, -0.1i}, "3602879701896397p-55,0p0;0p0,-3602879701896397p-55"},
		{ones(13), strings.Repeat("1p0,0p0;", 12) + "1p0,0p0"},
	} {
		text, code := impl.PolynomialText(c.p)
		if text != c.want || code != impl.ErrNone {
			t.Errorf("PolynomialText(%v) = %q, %d, want %q", c.p, text, code, c.want)
		}
	}
	for _, p := range badPolynomials() {
		if text, code := impl.PolynomialText(p); text != "" || code != impl.ErrInvalid {
			t.Errorf("PolynomialText(%v) = %q, %d", p, text, code)
		}
	}
}

func TestParsePolynomial(t *testing.T) {
	for _, c := range []struct {
		text string
		want []complex128
	}{
		{"1p1,0p0;-3p0,0p0;1p0,0p0", []complex128{2, -3, 1}},
		{"0p0,0p0;0p0,-1p0", []complex128{0, -1i}},
		{"3p-2,-3p2;0p0,1p-1074", []complex128{0.75 - 12i, complex(0, tiny)}},
		{"9007199254740991p971,-9007199254740991p971;1p1023,0p0", []complex128{complex(huge, -huge), 0x1p1023}},
		{"4503599627370497p-1074,9007199254740991p-1074;1p0,0p0", []complex128{complex(0x1.0000000000001p-1022, 0x1.fffffffffffffp-1022), 1}},
		{strings.Repeat("0p0,0p0;", 12) + "1p0,0p0", with(make([]complex128, 13), 12, 1)},
	} {
		p, code := impl.ParsePolynomial(c.text)
		checkCoefficients(t, fmt.Sprintf("ParsePolynomial(%q)", c.text), p, code, c.want, impl.ErrNone)
	}
}

func TestParsePolynomialFindsFaults(t *testing.T) {
	texts := []string{
		// Separators that are missing or superfluous, and other bytes.
		"", ";", ",", ",;,", "1p0,0p0;1p0", "1p0;1p0,0p0", "1p0,0p0;,1p0", "1p0,0p0;1p0,", "1p0,0p0;", ";1p0,0p0", "1p0,0p0;;1p0,0p0",
		";1p0,0p0;1p0,0p0", "1p0,0p0;1p0,0p0;", "1p0,0p0;1p0,0p0,", "1p0,0p0;,1p0,0p0", "1p0,0p0,0p0;1p0,0p0", "1p0,,0p0;1p0,0p0",
		"1p0,0p0,1p0,0p0", "1p0;0p0,1p0;0p0", "1p0,0p0:1p0,0p0", "1p0 0p0;1p0 0p0", "1p0,0p0 ;1p0,0p0", " 1p0,0p0;1p0,0p0", "1p0,0p0; 1p0,0p0",
		"1p0,0p0;1p0,0p0 ", "1p0,0p0;1p0,0p0\n", "1p0, 0p0;1p0,0p0", "1p0,0p0;1p0,0p0\x00", "\xff1p0,0p0;1p0,0p0", "1p0,0p0;1p0,0p0;\xff",
		// Parts that are no texts of exact numbers.
		"2p0,0p0;1p0,0p0", "1p0,0p0;1p0,0p1", "-0p0,0p0;1p0,0p0", "+1p0,0p0;1p0,0p0", "01p0,0p0;1p0,0p0", "1p00,0p0;1p0,0p0", "1p-0,0p0;1p0,0p0",
		"1,0;1,0", "1p,0p0;1p0,0p0", "p0,0p0;1p0,0p0", "1P0,0p0;1p0,0p0", "1p0p0,0p0;1p0,0p0", "1p0,0p0;1p0.0,0p0", "1e0,0p0;1p0,0p0", "1p0i,0p0;1p0,0p0",
		"1p5001,0p0;1p0,0p0", "1p99999999999999999999,0p0;1p0,0p0", "NaN,0p0;1p0,0p0",
		// Exact numbers that are the values of no floats.
		"1p1024,0p0;1p0,0p0", "1p0,-1p1024;1p0,0p0", "1p2000,0p0;1p0,0p0", "1p-1075,0p0;1p0,0p0", "1p0,0p0;1p-1075,0p0", "-3p-1075,0p0;1p0,0p0", "1p-5000,0p0;1p0,0p0",
		"9007199254740993p0,0p0;1p0,0p0", "9007199254740993p0,0p0;1p0,0p0", "1p0,-9007199254740993p971;1p0,0p0", "18014398509481983p970,0p0;1p0,0p0",
		"4503599627370497p-1075,0p0;1p0,0p0",
		// No polynomials.
		"1p0,0p0", "0p0,0p0", "0p0,0p0;0p0,0p0", "1p0,0p0;1p0,0p0;0p0,0p0", strings.Repeat("1p0,0p0;", 13) + "1p0,0p0", strings.Repeat("1p0,0p0;", 20000) + "1p0,0p0",
		strings.Repeat(";", 20000), strings.Repeat("0p0,0p0;", 12) + "0p0,0p0", "1p0,0p0;" + strings.Repeat("1", 20000) + "p0,0p0",
	}
	for _, text := range texts {
		p, code := impl.ParsePolynomial(text)
		checkCoefficients(t, fmt.Sprintf("ParsePolynomial(%.100q)", text), p, code, nil, impl.ErrSyntax)
	}
}

// A text with one byte changed, left out or put in is the text of the polynomial that it tells, or
// of none.
func TestParsePolynomialByte(t *testing.T) {
	bytes := "0123456789p,;- \n+x\x80"
	forPolynomials(t, 123, func(r *rand.Rand, p []complex128) {
		text, _ := impl.PolynomialText(p[len(p)-2:])
		place := r.IntN(len(text))
		change := []string{"", bytes[r.IntN(len(bytes)):][:1], text[place:place+1] + bytes[r.IntN(len(bytes)):][:1]}[r.IntN(3)]
		changed := text[:place] + change + text[place+1:]
		q, code := impl.ParsePolynomial(changed)
		if code != impl.ErrNone {
			checkCoefficients(t, fmt.Sprintf("ParsePolynomial(%q)", changed), q, code, nil, impl.ErrSyntax)
			return
		}
		if back, code := impl.PolynomialText(q); back != changed || code != impl.ErrNone || slices.Contains(strings.Split(changed, ";"), "") {
			t.Errorf("ParsePolynomial(%q) = %v, with the text %q, %d", changed, q, back, code)
		}
	})
}
