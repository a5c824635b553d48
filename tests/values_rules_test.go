package tests

import (
	"fmt"
	"slices"
	"testing"

	"loop.example/g01156/impl"
)

// valuesFunction is a function of chapter 5 of a polynomial and a number. It returns whether all
// results are zero values, and the code.
type valuesFunction func(p []complex128, z complex128) (bool, int64)

func isZeroExact(parts ...impl.Dyadic) bool {
	return !slices.ContainsFunc(parts, func(d impl.Dyadic) bool { return !sameDyadic(d, impl.Dyadic{}) })
}

// valuesFunctions are all functions of chapter 5. Those of narrow numbers get the same ones narrowed;
// ValuesAt gets a list in which the number comes last.
func valuesFunctions() map[string]valuesFunction {
	return map[string]valuesFunction{
		"ValueOf": func(p []complex128, z complex128) (bool, int64) {
			value, code := impl.ValueOf(p, z)
			return sameWide(value, 0), code
		},
		"NarrowValueOf": func(p []complex128, z complex128) (bool, int64) {
			value, code := impl.NarrowValueOf(narrowList(p), complex64(z))
			return sameNarrow(value, 0), code
		},
		"ValueWithBound": func(p []complex128, z complex128) (bool, int64) {
			value, bound, code := impl.ValueWithBound(p, z)
			return sameWide(value, 0) && sameFloat(bound, 0), code
		},
		"ExactValueOf": func(p []complex128, z complex128) (bool, int64) {
			e, code := impl.ExactValueOf(p, z)
			return isZeroExact(e.Real, e.Imag), code
		},
		"ErrorOfValue": func(p []complex128, z complex128) (bool, int64) {
			d, code := impl.ErrorOfValue(p, z)
			return isZeroExact(d), code
		},
		"IsSurelyNonzero": func(p []complex128, z complex128) (bool, int64) {
			is, code := impl.IsSurelyNonzero(p, z)
			return !is, code
		},
		"IsExactRoot": func(p []complex128, z complex128) (bool, int64) {
			is, code := impl.IsExactRoot(p, z)
			return !is, code
		},
		"TaylorOf": func(p []complex128, z complex128) (bool, int64) {
			list, code := impl.TaylorOf(p, z)
			return len(list) == 0, code
		},
		"ValuesAt": func(p []complex128, z complex128) (bool, int64) {
			list, code := impl.ValuesAt(p, []complex128{0, 2, z})
			return len(list) == 0, code
		},
		"WidthGap": func(p []complex128, z complex128) (bool, int64) {
			gap, code := impl.WidthGap(narrowList(p), complex64(z))
			return sameFloat(gap, 0), code
		},
	}
}

func checkZeroBeside(t *testing.T, name string, f valuesFunction, p []complex128, z complex128, wantCode int64) {
	t.Helper()
	if isZero, code := f(p, z); !isZero || code != wantCode {
		t.Errorf("%s of %v at %v: zero values %v, code %d, want %d", name, p, z, isZero, code, wantCode)
	}
}

func TestValuesAreThoseOfPolynomials(t *testing.T) {
	// 1e30 makes values that are too large for both widths where there is a polynomial.
	for name, f := range valuesFunctions() {
		for _, p := range badPolynomials() {
			for _, z := range append([]complex128{0, 2, 1e30i}, notFinites...) {
				checkZeroBeside(t, name, f, p, z, impl.ErrInvalid)
			}
		}
	}
}

func TestValuesAreThoseAtFiniteNumbers(t *testing.T) {
	limit := complex(float64(hugeNarrow), 0)
	for name, f := range valuesFunctions() {
		for _, p := range [][]complex128{{2, -3, 1}, ones(13), {0, 1}, {limit, limit, limit}} {
			for _, z := range notFinites {
				checkZeroBeside(t, name, f, p, z, impl.ErrInvalid)
			}
		}
	}
}

// Degrees 1 and 12 are those of polynomials, and 0 and 13 are not.
func TestDegreesOfValues(t *testing.T) {
	for name, f := range valuesFunctions() {
		for length, want := range map[int]int64{1: impl.ErrInvalid, 2: impl.ErrNone, 13: impl.ErrNone, 14: impl.ErrInvalid} {
			if _, code := f(ones(length), 1); code != want {
				t.Errorf("%s for %d coefficients: code %d, want %d", name, length, code, want)
			}
		}
	}
}

// Numbers on the way that are too large for both widths, and for exact numbers.
func TestZeroValuesBesideLimits(t *testing.T) {
	coefficients := map[string]complex128{"ExactValueOf": 0x1p-149, "IsExactRoot": 0x1p-149}
	for name, f := range valuesFunctions() {
		p, z := with(ones(13), 12, 0x1p120), complex128(0x1p120i)
		if c, ok := coefficients[name]; ok {
			p, z = with(ones(13), 12, c), 0x1p-700
		}
		checkZeroBeside(t, name, f, p, z, impl.ErrLimit)
	}
}

func TestValuesAtHasARange(t *testing.T) {
	p := []complex128{2, -3, 1}
	many, most := ones(101), ones(100)
	bad := complex(nan, inf)
	for _, c := range []struct {
		p, list []complex128
		code    int64
	}{
		{p, most, impl.ErrNone},
		{p, many, impl.ErrRange},
		{p, with(many, 0, bad), impl.ErrRange},
		{p, with(many, 100, bad), impl.ErrRange},
		{p, with(many, 0, 1e200), impl.ErrRange},
		{p, with(most, 0, bad), impl.ErrInvalid},
		{p, with(most, 99, bad), impl.ErrInvalid},
		{p, with(with(most, 0, 1e200), 99, bad), impl.ErrInvalid},
		{p, []complex128{bad}, impl.ErrInvalid},
		{p, with(most, 99, 1e200), impl.ErrLimit},
	} {
		list, code := impl.ValuesAt(c.p, c.list)
		checkCoefficients(t, fmt.Sprintf("ValuesAt(%v, %v)", c.p, c.list), list, code, make([]complex128, 100), c.code)
	}
	for _, p := range badPolynomials() {
		for _, list := range [][]complex128{nil, {}, {2}, most, with(most, 0, 1e200), with(most, 0, bad)} {
			values, code := impl.ValuesAt(p, list)
			checkCoefficients(t, fmt.Sprintf("ValuesAt(%v, %v)", p, list), values, code, nil, impl.ErrInvalid)
		}
		for _, list := range [][]complex128{many, with(many, 0, bad), ones(2000)} {
			values, code := impl.ValuesAt(p, list)
			checkCoefficients(t, fmt.Sprintf("ValuesAt(%v, %v)", p, list), values, code, nil, impl.ErrRange)
		}
	}
}

// Arguments stay as they are, with the memory behind them.
func TestValuesChangeNoArgument(t *testing.T) {
	for _, list := range [][]complex128{{2, -3, 1}, {0, 1}, ones(13), {1, 1e-30, 0.1 - 0.3i}} {
		p, all := roomyList(list)
		narrow := narrowList(all)
		before := slices.Clone(narrow)
		for name, f := range valuesFunctions() {
			f(p, 0.1+2i)
			checkRoomy(t, name, all, list)
		}
		impl.NarrowValueOf(narrow[:len(list)], 0.1+2i)
		impl.WidthGap(narrow[:len(list)], 0.1+2i)
		if !slices.Equal(narrow, before) {
			t.Errorf("%v is changed to %v", before, narrow)
		}
	}
	list, all := roomyList([]complex128{1i, 3, 2})
	impl.ValuesAt([]complex128{2, -3, 1}, list)
	checkRoomy(t, "ValuesAt", all, []complex128{1i, 3, 2})
}

// Lists of results stay when the arguments and the results of one more call are written over.
func TestListsOfValuesOwnTheirMemory(t *testing.T) {
	for _, numbers := range [][]complex128{{2, -3, 1}, {0, 1}, ones(13), {0, 0, 1i}} {
		for name, f := range map[string]func(p []complex128) ([]complex128, int64){
			"TaylorOf": func(p []complex128) ([]complex128, int64) { return impl.TaylorOf(p, 0) },
			"ValuesAt": func(p []complex128) ([]complex128, int64) { return impl.ValuesAt(p, p) },
		} {
			p, all := roomyList(numbers)
			list, _ := f(p)
			want := slices.Clone(list)
			writeOver(all)
			again, _ := f(slices.Clone(numbers))
			if !slices.Equal(again, want) {
				t.Errorf("%s of %v = %v, and then %v", name, numbers, want, again)
			}
			writeOver(again)
			if !slices.Equal(list, want) {
				t.Errorf("%s of %v: the result shares memory", name, numbers)
			}
			p, all = roomyList(numbers)
			list, _ = f(p)
			writeOver(list)
			checkRoomy(t, name, all, numbers)
		}
	}
}

func TestExactValuesOwnTheirMemory(t *testing.T) {
	for _, p := range [][]complex128{{3 + 3i, 1}, {0, 1}, {2, -3, 1}, {0.1 + 0.1i, 0.1 + 0.1i}, ones(13)} {
		for _, z := range []complex128{0, 1, 1i, 0.1 + 0.1i} {
			name := fmt.Sprintf("the exact value of %v at %v", p, z)
			e, _ := impl.ExactValueOf(p, z)
			re, im := binaryOf(e.Real), binaryOf(e.Imag)
			checkOwn(t, name, []impl.Whole{e.Real.Whole, e.Imag.Whole}, nil, nil)
			e, code := impl.ExactValueOf(p, z)
			checkExact(t, name, e, code, re, im, impl.ErrNone)
			d, _ := impl.ErrorOfValue(p, z)
			was := binaryOf(d)
			checkOwn(t, name, []impl.Whole{d.Whole}, nil, nil)
			d, code = impl.ErrorOfValue(p, z)
			checkDyadic(t, name+", error,", d, code, was, impl.ErrNone)
		}
	}
}
