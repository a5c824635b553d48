package tests

import (
	"fmt"
	"math"
	"math/big"
	"slices"
	"testing"

	"loop.example/g01156/impl"
)

// dyadicsFunction is a function of exact numbers, or of parts of exact complex ones, with all its
// results as exact numbers.
type dyadicsFunction struct {
	count int
	call  func(list []impl.Dyadic) ([]impl.Dyadic, int64)
}

// bitsOf shows floats as exact numbers by their bits: so 0 and -0 are not the same.
func bitsOf(x float64) impl.Dyadic {
	return impl.Dyadic{Whole: wholeOf(new(big.Int).SetUint64(math.Float64bits(x)))}
}

func oneDyadic(f func(impl.Dyadic) (impl.Dyadic, int64)) dyadicsFunction {
	return dyadicsFunction{1, func(list []impl.Dyadic) ([]impl.Dyadic, int64) {
		d, code := f(list[0])
		return []impl.Dyadic{d}, code
	}}
}

func twoDyadics(f func(c, d impl.Dyadic) (impl.Dyadic, int64)) dyadicsFunction {
	return dyadicsFunction{2, func(list []impl.Dyadic) ([]impl.Dyadic, int64) {
		d, code := f(list[0], list[1])
		return []impl.Dyadic{d}, code
	}}
}

func twoExacts(f func(e, f impl.Exact) (impl.Exact, int64)) dyadicsFunction {
	return dyadicsFunction{4, func(list []impl.Dyadic) ([]impl.Dyadic, int64) {
		e, code := f(impl.Exact{Real: list[0], Imag: list[1]}, impl.Exact{Real: list[2], Imag: list[3]})
		return []impl.Dyadic{e.Real, e.Imag}, code
	}}
}

// dyadicsFunctions are all functions of chapter 3 that have exact numbers as arguments.
func dyadicsFunctions(k int64) map[string]dyadicsFunction {
	return map[string]dyadicsFunction{
		"AddDyadics":      twoDyadics(impl.AddDyadics),
		"SubtractDyadics": twoDyadics(impl.SubtractDyadics),
		"MultiplyDyadics": twoDyadics(impl.MultiplyDyadics),
		"SquareOfExact":   twoDyadics(squareOf),
		"AddExacts":       twoExacts(impl.AddExacts),
		"MultiplyExacts":  twoExacts(impl.MultiplyExacts),
		"ScaleDyadic":     oneDyadic(func(d impl.Dyadic) (impl.Dyadic, int64) { return impl.ScaleDyadic(d, k) }),
		"FloorDyadic":     oneDyadic(func(d impl.Dyadic) (impl.Dyadic, int64) { return impl.FloorDyadic(d, k) }),
		"CeilDyadic":      oneDyadic(func(d impl.Dyadic) (impl.Dyadic, int64) { return impl.CeilDyadic(d, k) }),
		"RootAbove":       oneDyadic(func(d impl.Dyadic) (impl.Dyadic, int64) { return impl.RootAbove(d, k) }),
		"CompareDyadics": twoDyadics(func(c, d impl.Dyadic) (impl.Dyadic, int64) {
			n, code := impl.CompareDyadics(c, d)
			return impl.Dyadic{Exponent: n}, code
		}),
		"FloatOf": oneDyadic(func(d impl.Dyadic) (impl.Dyadic, int64) {
			x, code := impl.FloatOf(d)
			return bitsOf(x), code
		}),
		"FloatOfNarrow": oneDyadic(func(d impl.Dyadic) (impl.Dyadic, int64) {
			x, code := impl.FloatOfNarrow(d)
			return bitsOf(float64(x)), code
		}),
		"DyadicText": oneDyadic(func(d impl.Dyadic) (impl.Dyadic, int64) {
			text, code := impl.DyadicText(d)
			return impl.Dyadic{Exponent: int64(len(text))}, code
		}),
		"NumberOf": {2, func(list []impl.Dyadic) ([]impl.Dyadic, int64) {
			z, code := impl.NumberOf(impl.Exact{Real: list[0], Imag: list[1]})
			return []impl.Dyadic{bitsOf(real(z)), bitsOf(imag(z))}, code
		}},
		"MakeDyadic": oneDyadic(func(d impl.Dyadic) (impl.Dyadic, int64) {
			if !impl.IsDyadic(d) {
				return impl.Dyadic{}, impl.ErrInvalid
			}
			return impl.MakeDyadic(d.Whole, k)
		}),
	}
}

func TestDyadicsMustBeExactNumbers(t *testing.T) {
	others := []impl.Dyadic{{}, dyadic("1p5000"), dyadic("-2^4800+1p0")}
	for why, bad := range badDyadics() {
		// 1, and numbers that are in no range of k.
		for _, k := range []int64{1, 10001, -10001} {
			for name, f := range dyadicsFunctions(k) {
				for place := range f.count {
					for _, other := range append(others, bad) {
						list := slices.Repeat([]impl.Dyadic{other}, f.count)
						list[place] = bad
						results, code := f.call(list)
						for _, d := range results {
							checkDyadic(t, fmt.Sprintf("%s, argument %d, %s", name, place, why), d, code, binary{}, impl.ErrInvalid)
						}
					}
				}
			}
		}
	}
}

func sameResults(a []impl.Dyadic, code int64, b []impl.Dyadic, other int64) bool {
	return slices.EqualFunc(a, b, sameDyadic) && code == other
}

// A slice without limbs is the same as none.
func TestDyadicsWithEmptyLimbs(t *testing.T) {
	empty := impl.Dyadic{Whole: impl.Whole{Limbs: []int64{}}}
	for name, f := range dyadicsFunctions(3) {
		for place := range f.count {
			for _, other := range []impl.Dyadic{{}, dyadic("-7p2")} {
				list := slices.Repeat([]impl.Dyadic{other}, f.count)
				list[place] = impl.Dyadic{}
				want, wantCode := f.call(list)
				list[place] = empty
				if got, code := f.call(list); !sameResults(got, code, want, wantCode) {
					t.Errorf("%s = %v, %d, want %v, %d", name, got, code, want, wantCode)
				}
			}
		}
	}
}

// One number in all places.
func TestDyadicsWithThemselves(t *testing.T) {
	forBinaries(t, 101, func(b binary) {
		d := dyadicOf(b)
		for name, f := range dyadicsFunctions(5) {
			got, code := f.call(slices.Repeat([]impl.Dyadic{d}, f.count))
			var list []impl.Dyadic
			for range f.count {
				list = append(list, dyadicOf(b))
			}
			if want, wantCode := f.call(list); !sameResults(got, code, want, wantCode) || !sameDyadic(d, dyadicOf(b)) {
				t.Errorf("%s of %v alone = %v, %d, want %v, %d", name, b, got, code, want, wantCode)
			}
		}
	})
}

func TestDyadicsOwnTheirMemory(t *testing.T) {
	texts := []string{"0p0", "1p0", "-1p7", "-3p-2", "2^24-1p-30", "2^200-1p100", "-2^300+7p0", "2^4800-1p-4500"}
	for _, text := range texts {
		for _, other := range texts {
			for _, k := range []int64{0, 1, 30, 200, -1, -30, -1000} {
				for name, f := range dyadicsFunctions(k) {
					list := make([]impl.Dyadic, f.count)
					var arguments, before [][]int64
					for i := range list {
						b := number([]string{text, other}[i%2])
						var all []int64
						list[i].Whole, all = roomy(b.whole)
						list[i].Exponent = b.exponent
						arguments, before = append(arguments, all), append(before, slices.Clone(all))
					}
					results, _ := f.call(list)
					var wholes []impl.Whole
					for _, d := range results {
						wholes = append(wholes, d.Whole)
					}
					checkOwn(t, fmt.Sprintf("%s of %s and %s, k = %d", name, text, other, k), wholes, arguments, before)
				}
			}
		}
	}
}

func TestMakeDyadicAndExactOfOwnTheirMemory(t *testing.T) {
	for _, text := range []string{"0", "1", "-12", "2^24+0", "2^4800-2"} {
		a, all := roomy(integer(text))
		before := [][]int64{slices.Clone(all)}
		d, _ := impl.MakeDyadic(a, -3)
		checkOwn(t, "MakeDyadic of "+text, []impl.Whole{d.Whole}, [][]int64{all}, before)
	}
	e, _ := impl.ExactOf(3 + 3i)
	checkOwn(t, "ExactOf", []impl.Whole{e.Real.Whole, e.Imag.Whole}, nil, nil)
	// Results that are written over are those of no later call.
	for _, x := range []float64{1, 0.1, -huge} {
		first, _ := impl.DyadicOf(x)
		for i := range first.Whole.Limbs {
			first.Whole.Limbs[i] = beyond
		}
		second, code := impl.DyadicOf(x)
		checkDyadic(t, fmt.Sprintf("DyadicOf(%g)", x), second, code, valueOf(x), impl.ErrNone)
	}
}
