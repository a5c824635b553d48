package tests

import (
	"fmt"
	"math"
	"math/big"
	"testing"

	"loop.example/g01156/impl"
)

func TestPromise3FloatsComeBack(t *testing.T) {
	r := newRandom(91)
	check := func(x float64) {
		d, code := impl.DyadicOf(x)
		if code != impl.ErrNone || !impl.IsDyadic(d) {
			t.Fatalf("DyadicOf(%g) = %v, %d", x, d, code)
		}
		y, code := impl.FloatOf(d)
		// The exact value of -0 is 0.
		checkFloat(t, fmt.Sprintf("FloatOf of the value of %g", x), y, code, x+0, impl.ErrNone)
	}
	checkNarrow := func(x float32) {
		d, code := impl.DyadicOfNarrow(x)
		if code != impl.ErrNone || !impl.IsDyadic(d) {
			t.Fatalf("DyadicOfNarrow(%g) = %v, %d", x, d, code)
		}
		y, code := impl.FloatOfNarrow(d)
		checkFloat(t, fmt.Sprintf("FloatOfNarrow of the value of %g", x), float64(y), code, float64(x+0), impl.ErrNone)
		wide, code := impl.DyadicOf(float64(x))
		checkDyadic(t, fmt.Sprintf("DyadicOf(%g), widened,", x), wide, code, binaryOf(d), impl.ErrNone)
	}
	for _, x := range cornerFloats() {
		check(x)
		if narrow := float32(x); narrow-narrow == 0 {
			checkNarrow(narrow)
		}
	}
	for _, x := range []float32{tinyNarrow, -tinyNarrow, hugeNarrow, -hugeNarrow, negativeNarrow, 0x1p-126, 0x0.fffffep-126} {
		checkNarrow(x)
	}
	// The floats beside each power of two.
	for exponent := -1074; exponent <= 1023; exponent++ {
		x := math.Ldexp(1, exponent)
		check(x)
		check(-math.Nextafter(x, 0))
		check(math.Nextafter(x, huge))
		if exponent >= -149 && exponent <= 127 {
			checkNarrow(float32(x))
			checkNarrow(-math.Nextafter32(float32(x), 0))
			checkNarrow(math.Nextafter32(float32(x), hugeNarrow))
		}
	}
	for range 10000 {
		check(anyFloat(r))
		checkNarrow(anyFloatNarrow(r))
	}
}

// roundedEither rounds to both widths; what is no float any more is infinite.
func roundedEither(t *testing.T, d impl.Dyadic) (float64, float64) {
	t.Helper()
	x, code := impl.FloatOf(d)
	y, narrowCode := impl.FloatOfNarrow(d)
	wide, narrow := x, float64(y)
	if code == impl.ErrLimit {
		wide = math.Inf(int(d.Whole.Sign))
	} else if code != impl.ErrNone {
		t.Errorf("FloatOf(%v): code %d", d, code)
	}
	if narrowCode == impl.ErrLimit {
		narrow = math.Inf(int(d.Whole.Sign))
	} else if narrowCode != impl.ErrNone {
		t.Errorf("FloatOfNarrow(%v): code %d", d, narrowCode)
	}
	return wide, narrow
}

func TestPromise3RoundingKeepsTheOrder(t *testing.T) {
	check := func(a, b binary) {
		c, d := dyadicOf(a), dyadicOf(b)
		order, code := impl.CompareDyadics(c, d)
		if code != impl.ErrNone {
			t.Errorf("CompareDyadics(%v, %v): code %d", a, b, code)
		}
		if order > 0 {
			c, d = d, c
		}
		x, narrowX := roundedEither(t, c)
		y, narrowY := roundedEither(t, d)
		if x > y || narrowX > narrowY || order == 0 && (!sameFloat(x, y) || !sameFloat(narrowX, narrowY)) {
			t.Errorf("%v and %v are rounded to %g and %g, and to %g and %g", binaryOf(c), binaryOf(d), x, y, narrowX, narrowY)
		}
		if math.Signbit(x) != (c.Whole.Sign < 0) || math.Signbit(narrowX) != (c.Whole.Sign < 0) {
			t.Errorf("%v is rounded to %g and %g", binaryOf(c), x, narrowX)
		}
	}
	forBinaryPairs(t, 92, check)
	r := newRandom(93)
	for range 4000 {
		a := besideFloat(r)
		step := binary{big.NewInt(1), a.exponent - r.Int64N(3)}
		check(a, plus(a, step))
		check(a, minus(a, step))
		if t.Failed() {
			return
		}
	}
}

func TestPromise3SquaresOfRootsAbove(t *testing.T) {
	forRoots(t, 94, func(b binary, k int64) {
		d := dyadicOf(b)
		root, code := impl.RootAbove(d, k)
		if code != impl.ErrNone || !impl.IsDyadic(root) || root.Whole.Sign < 0 || root.Exponent < -k {
			t.Fatalf("RootAbove(%v, %d) = %v, %d", b, k, binaryOf(root), code)
		}
		if square, code := impl.MultiplyDyadics(root, root); code != impl.ErrNone || exactOrder(t, square, d) < 0 {
			t.Errorf("RootAbove(%v, %d) = %v has a square that is less", b, k, binaryOf(root))
		}
		if root.Whole.Sign == 0 {
			return
		}
		step, _ := impl.MakeDyadic(whole("1"), -k)
		below, _ := impl.SubtractDyadics(root, step)
		if square, code := impl.MultiplyDyadics(below, below); code != impl.ErrNone || exactOrder(t, square, d) >= 0 {
			t.Errorf("RootAbove(%v, %d) = %v is not the least", b, k, binaryOf(root))
		}
		// The same, found by other means.
		value := binaryOf(root)
		next := minus(value, binary{big.NewInt(1), -k})
		if compare(times(value, value), b) < 0 || compare(times(next, next), b) >= 0 {
			t.Errorf("RootAbove(%v, %d) = %v", b, k, value)
		}
	})
}

// exactOrder compares two exact numbers.
func exactOrder(t *testing.T, c, d impl.Dyadic) int64 {
	t.Helper()
	n, code := impl.CompareDyadics(c, d)
	if code != impl.ErrNone {
		t.Errorf("CompareDyadics(%v, %v): code %d", c, d, code)
	}
	return n
}

func TestDyadicTextsAreParsed(t *testing.T) {
	forBinaries(t, 95, func(b binary) {
		text, code := impl.DyadicText(dyadicOf(b))
		if code != impl.ErrNone {
			t.Errorf("DyadicText(%v): code %d", b, code)
		}
		d, code := impl.ParseDyadic(text)
		checkDyadic(t, fmt.Sprintf("ParseDyadic of the text of %v", b), d, code, b, impl.ErrNone)
	})
}

func TestFloorsAndCeilings(t *testing.T) {
	r := newRandom(96)
	forBinaries(t, 97, func(b binary) {
		k := placeNear(b, r.Int64N(12)-6, r.Int64N(2001)-1000, r.IntN(2) == 0)
		d := dyadicOf(b)
		step, _ := impl.MakeDyadic(whole("1"), -k)
		floor, code := impl.FloorDyadic(d, k)
		if code == impl.ErrNone {
			next := minus(b, binaryOf(step))
			if exactOrder(t, floor, d) > 0 || compare(binaryOf(floor), next) <= 0 || floor.Whole.Sign != 0 && floor.Exponent < -k {
				t.Errorf("FloorDyadic(%v, %d) = %v", b, k, binaryOf(floor))
			}
		}
		ceil, code := impl.CeilDyadic(d, k)
		if code == impl.ErrNone {
			next := plus(b, binaryOf(step))
			if exactOrder(t, ceil, d) < 0 || compare(binaryOf(ceil), next) >= 0 || ceil.Whole.Sign != 0 && ceil.Exponent < -k {
				t.Errorf("CeilDyadic(%v, %d) = %v", b, k, binaryOf(ceil))
			}
		}
	})
}

// checkExactlyRounded compares the real part that comes from floats with the rounded exact number.
func checkExactlyRounded(t *testing.T, name string, x float64, code int64, d impl.Dyadic, round func(impl.Dyadic) (float64, int64)) {
	t.Helper()
	want, wantCode := round(d)
	// An exact number has no sign where it is 0.
	if x != want || code != wantCode {
		t.Errorf("%s = %g, %d, but the exact one is rounded to %g, %d", name, x, code, want, wantCode)
	}
}

func TestPromise13ExactResultsRounded(t *testing.T) {
	forPairs(t, 98, func(a, b complex128) {
		x, y := real(a), real(b)
		c, _ := impl.DyadicOf(x)
		d, _ := impl.DyadicOf(y)
		exactly, _ := impl.AddDyadics(c, d)
		z, code := impl.AddWide(complex(x, 0), complex(y, 0))
		checkExactlyRounded(t, fmt.Sprintf("the sum of %g and %g", x, y), real(z), code, exactly, impl.FloatOf)
		exactly, _ = impl.SubtractDyadics(c, d)
		z, code = impl.SubtractWide(complex(x, 0), complex(y, 0))
		checkExactlyRounded(t, fmt.Sprintf("the difference of %g and %g", x, y), real(z), code, exactly, impl.FloatOf)
		exactly, _ = impl.MultiplyDyadics(c, d)
		z, code = impl.MultiplyWide(complex(x, 0), complex(y, 0))
		checkExactlyRounded(t, fmt.Sprintf("the product of %g and %g", x, y), real(z), code, exactly, impl.FloatOf)
	})
}

func TestPromise13ExactNarrowResultsRounded(t *testing.T) {
	forNarrowPairs(t, 99, func(a, b complex64) {
		x, y := real(a), real(b)
		c, _ := impl.DyadicOfNarrow(x)
		d, _ := impl.DyadicOfNarrow(y)
		exactly, _ := impl.AddDyadics(c, d)
		z, code := impl.AddNarrow(complex(x, 0), complex(y, 0))
		checkExactlyRounded(t, fmt.Sprintf("the narrow sum of %g and %g", x, y), float64(real(z)), code, exactly, floatOfNarrow)
		exactly, _ = impl.SubtractDyadics(c, d)
		z, code = impl.SubtractNarrow(complex(x, 0), complex(y, 0))
		checkExactlyRounded(t, fmt.Sprintf("the narrow difference of %g and %g", x, y), float64(real(z)), code, exactly, floatOfNarrow)
		exactly, _ = impl.MultiplyDyadics(c, d)
		z, code = impl.MultiplyNarrow(complex(x, 0), complex(y, 0))
		checkExactlyRounded(t, fmt.Sprintf("the narrow product of %g and %g", x, y), float64(real(z)), code, exactly, floatOfNarrow)
	})
}

func TestPromise13ExactComplexSumsRounded(t *testing.T) {
	forPairs(t, 100, func(a, b complex128) {
		e, _ := impl.ExactOf(a)
		f, _ := impl.ExactOf(b)
		sum, code := impl.AddExacts(e, f)
		if code != impl.ErrNone {
			t.Errorf("AddExacts of %v and %v: code %d", a, b, code)
		}
		want, wantCode := impl.NumberOf(sum)
		if z, code := impl.AddWide(a, b); z != want || code != wantCode {
			t.Errorf("AddWide(%v, %v) = %v, %d, but the exact sum is rounded to %v, %d", a, b, z, code, want, wantCode)
		}
	})
}
