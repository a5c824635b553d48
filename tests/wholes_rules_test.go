package tests

import (
	"fmt"
	"math/big"
	"slices"
	"testing"

	"loop.example/g01156/impl"
)

// wholesOfOne are the functions of one whole number, with all their results as whole numbers.
func wholesOfOne(k int64) map[string]func(impl.Whole) ([]impl.Whole, int64) {
	list := func(f func(impl.Whole) (impl.Whole, int64)) func(impl.Whole) ([]impl.Whole, int64) {
		return func(a impl.Whole) ([]impl.Whole, int64) {
			b, code := f(a)
			return []impl.Whole{b}, code
		}
	}
	number := func(f func(impl.Whole) (int64, int64)) func(impl.Whole) ([]impl.Whole, int64) {
		return func(a impl.Whole) ([]impl.Whole, int64) {
			n, code := f(a)
			return []impl.Whole{wholeOf(big.NewInt(n))}, code
		}
	}
	return map[string]func(impl.Whole) ([]impl.Whole, int64){
		"IntegerOf":     number(impl.IntegerOf),
		"LengthOfWhole": number(impl.LengthOfWhole),
		"TwosIn":        number(impl.TwosIn),
		"RootOfWhole":   list(impl.RootOfWhole),
		"ShiftWhole":    list(func(a impl.Whole) (impl.Whole, int64) { return impl.ShiftWhole(a, k) }),
		"PowerOfWhole":  list(func(a impl.Whole) (impl.Whole, int64) { return impl.PowerOfWhole(a, k) }),
		"WholeText": number(func(a impl.Whole) (int64, int64) {
			text, code := impl.WholeText(a)
			return int64(len(text)), code
		}),
	}
}

// wholesOfTwo are the functions of two whole numbers, with all their results as whole numbers.
func wholesOfTwo() map[string]func(a, b impl.Whole) ([]impl.Whole, int64) {
	list := func(f func(a, b impl.Whole) (impl.Whole, int64)) func(a, b impl.Whole) ([]impl.Whole, int64) {
		return func(a, b impl.Whole) ([]impl.Whole, int64) {
			c, code := f(a, b)
			return []impl.Whole{c}, code
		}
	}
	return map[string]func(a, b impl.Whole) ([]impl.Whole, int64){
		"AddWholes":      list(impl.AddWholes),
		"SubtractWholes": list(impl.SubtractWholes),
		"MultiplyWholes": list(impl.MultiplyWholes),
		"CommonOfWholes": list(impl.CommonOfWholes),
		"DivideWholes": func(a, b impl.Whole) ([]impl.Whole, int64) {
			quotient, rest, code := impl.DivideWholes(a, b)
			return []impl.Whole{quotient, rest}, code
		},
		"CompareWholes": func(a, b impl.Whole) ([]impl.Whole, int64) {
			n, code := impl.CompareWholes(a, b)
			return []impl.Whole{wholeOf(big.NewInt(n))}, code
		},
	}
}

func TestWholesMustBeWhole(t *testing.T) {
	invalid := func(name string, results []impl.Whole, code int64) {
		t.Helper()
		for _, a := range results {
			checkWhole(t, name, a, code, nil, impl.ErrInvalid)
		}
	}
	for why, bad := range badWholes() {
		// 5001 and -1 are not in the range of k.
		for _, k := range []int64{1, 5001, -1, -5001} {
			for name, f := range wholesOfOne(k) {
				results, code := f(bad)
				invalid(name+", "+why, results, code)
			}
		}
		for name, f := range wholesOfTwo() {
			for _, other := range []impl.Whole{{}, whole("1"), whole("-2^4800+1"), bad} {
				results, code := f(bad, other)
				invalid(name+", first one, "+why, results, code)
				results, code = f(other, bad)
				invalid(name+", second one, "+why, results, code)
			}
		}
	}
}

// A slice without limbs is the same as none.
func TestEmptyLimbs(t *testing.T) {
	empty := impl.Whole{Limbs: []int64{}}
	for name, f := range wholesOfOne(3) {
		got, code := f(empty)
		want, wantCode := f(impl.Whole{})
		if !slices.EqualFunc(got, want, sameWhole) || code != wantCode {
			t.Errorf("%s = %v, %d, want %v, %d", name, got, code, want, wantCode)
		}
	}
	for name, f := range wholesOfTwo() {
		for _, other := range []impl.Whole{{}, empty, whole("-7")} {
			got, code := f(empty, other)
			want, wantCode := f(impl.Whole{}, other)
			if !slices.EqualFunc(got, want, sameWhole) || code != wantCode {
				t.Errorf("%s with %v = %v, %d, want %v, %d", name, other, got, code, want, wantCode)
			}
			got, code = f(other, empty)
			want, wantCode = f(other, impl.Whole{})
			if !slices.EqualFunc(got, want, sameWhole) || code != wantCode {
				t.Errorf("%s with %v = %v, %d, want %v, %d", name, other, got, code, want, wantCode)
			}
		}
	}
}

const beyond = 4321

// roomy is a whole number with spare capacity behind its limbs, which is returned, too.
func roomy(n *big.Int) (impl.Whole, []int64) {
	a := wholeOf(n)
	count := len(a.Limbs)
	all := append(a.Limbs, slices.Repeat([]int64{beyond}, 5)...)
	a.Limbs = all[:count]
	return a, all
}

// checkOwn writes over the results, limb by limb and behind them, and finds the arguments and the
// other results as they were.
func checkOwn(t *testing.T, name string, results []impl.Whole, arguments [][]int64, before [][]int64) {
	t.Helper()
	same := func() bool { return slices.EqualFunc(arguments, before, slices.Equal[[]int64]) }
	if !same() {
		t.Errorf("%s changes an argument", name)
	}
	for i, a := range results {
		var others []impl.Whole
		for k, b := range results {
			if k != i {
				others = append(others, impl.Whole{Sign: b.Sign, Limbs: slices.Clone(b.Limbs)})
			}
		}
		all := a.Limbs[:cap(a.Limbs)]
		for k := range all {
			all[k] = -beyond
		}
		if !slices.EqualFunc(slices.Delete(slices.Clone(results), i, i+1), others, sameWhole) {
			t.Errorf("%s: two results share memory", name)
		}
		if !same() {
			t.Errorf("%s: a result shares memory with an argument", name)
		}
	}
}

func TestWholesOwnTheirMemory(t *testing.T) {
	texts := []string{"0", "1", "-1", "2", "-3", "16777216", "-16777217", "2^200-1", "-2^300+7", "2^4800-1"}
	for _, text := range texts {
		for _, k := range []int64{0, 1, 2, 30, -1, -30, -5000} {
			for name, f := range wholesOfOne(k) {
				a, all := roomy(integer(text))
				before := [][]int64{slices.Clone(all)}
				results, _ := f(a)
				checkOwn(t, fmt.Sprintf("%s of %s, k = %d", name, text, k), results, [][]int64{all}, before)
			}
		}
		for _, other := range texts {
			for name, f := range wholesOfTwo() {
				a, all := roomy(integer(text))
				b, more := roomy(integer(other))
				before := [][]int64{slices.Clone(all), slices.Clone(more)}
				results, _ := f(a, b)
				checkOwn(t, fmt.Sprintf("%s of %s and %s", name, text, other), results, [][]int64{all, more}, before)
			}
		}
	}
}

// One number in both places.
func TestWholesWithThemselves(t *testing.T) {
	forIntegers(t, 36, func(n *big.Int) {
		a := wholeOf(n)
		for name, f := range wholesOfTwo() {
			got, code := f(a, a)
			want, wantCode := f(a, wholeOf(n))
			if !slices.EqualFunc(got, want, sameWhole) || code != wantCode || !sameWhole(a, wholeOf(n)) {
				t.Errorf("%s of %v and itself = %v, %d, want %v, %d", name, n, got, code, want, wantCode)
			}
		}
	})
}
