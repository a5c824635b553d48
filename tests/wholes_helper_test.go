package tests

import (
	"fmt"
	"math"
	"math/big"
	"math/rand/v2"
	"slices"
	"testing"

	"loop.example/g01156/impl"
)

// integer reads a number in decimal, or, as 2^n+m or 2^n-m with or without a sign in front, one that
// is too long to be written.
func integer(text string) *big.Int {
	n := new(big.Int)
	if _, ok := n.SetString(text, 10); ok {
		return n
	}
	var exponent, more int64
	if _, err := fmt.Sscanf(text, "2^%d%d", &exponent, &more); err == nil {
		return n.Add(powerOfTwo(exponent), big.NewInt(more))
	}
	if _, err := fmt.Sscanf(text, "-2^%d%d", &exponent, &more); err == nil {
		return n.Sub(big.NewInt(more), powerOfTwo(exponent))
	}
	panic("no number: " + text)
}

func powerOfTwo(exponent int64) *big.Int {
	return new(big.Int).Lsh(big.NewInt(1), uint(exponent))
}

// wholeOf makes the whole number of any number, also of one that is too large.
func wholeOf(n *big.Int) impl.Whole {
	a := impl.Whole{Sign: int64(n.Sign())}
	rest := new(big.Int).Abs(n)
	limb := new(big.Int)
	for rest.Sign() > 0 {
		a.Limbs = append(a.Limbs, limb.And(rest, big.NewInt(1<<24-1)).Int64())
		rest.Rsh(rest, 24)
	}
	return a
}

func whole(text string) impl.Whole {
	return wholeOf(integer(text))
}

// integerOf is the value of a whole number.
func integerOf(a impl.Whole) *big.Int {
	n := new(big.Int)
	for _, limb := range slices.Backward(a.Limbs) {
		n.Add(n.Lsh(n, 24), big.NewInt(limb))
	}
	return n.Mul(n, big.NewInt(a.Sign))
}

func isTooLarge(n *big.Int) bool {
	return n.BitLen() > 24*200
}

// limitCode is the code that goes with a result.
func limitCode(n *big.Int) int64 {
	if isTooLarge(n) {
		return impl.ErrLimit
	}
	return impl.ErrNone
}

func sameWhole(a, b impl.Whole) bool {
	return a.Sign == b.Sign && slices.Equal(a.Limbs, b.Limbs)
}

// checkWhole compares a result with the number that is wanted, or with 0 if a code other than
// ErrNone is.
func checkWhole(t *testing.T, name string, a impl.Whole, code int64, want *big.Int, wantCode int64) {
	t.Helper()
	if wantCode != impl.ErrNone {
		want = new(big.Int)
	}
	if code != wantCode || !sameWhole(a, wholeOf(want)) {
		t.Errorf("%s = %v, %d, want %v, %d", name, a, code, wholeOf(want), wantCode)
	}
}

func checkInteger(t *testing.T, name string, n, code, want, wantCode int64) {
	t.Helper()
	if n != want || code != wantCode {
		t.Errorf("%s = %d, %d, want %d, %d", name, n, code, want, wantCode)
	}
}

// cornerWholes are numbers at the ends of limbs, of int64, and of whole numbers, with both signs.
func cornerWholes() []*big.Int {
	texts := []string{
		"0", "1", "2", "3", "5", "6", "7", "10", "99999999999", "100000000000", "2^23+0", "2^24-1", "2^24+0",
		"2^24+1", "2^25-1", "2^47+0", "2^48-1", "2^48+0", "2^48+1", "2^63-1", "2^63+0", "2^63+1", "2^64-1",
		"2^64+0", "2^72-1", "2^72+0", "2^400-1", "2^400+0", "2^2399+1", "2^2400-1", "2^2400+0", "2^2400+1",
		"2^4776-1", "2^4776+0", "2^4799-1", "2^4799+0", "2^4800-2", "2^4800-1",
	}
	var all []*big.Int
	for _, text := range texts {
		n := integer(text)
		all = append(all, n)
		if n.Sign() != 0 {
			all = append(all, new(big.Int).Neg(n))
		}
	}
	return all
}

// anyInteger gives a number of 1 to the given number of limbs, many of which are the least or the
// greatest ones; or, seldom, 0.
func anyInteger(r *rand.Rand, limbs int) *big.Int {
	n := new(big.Int)
	kind := r.IntN(3)
	for range 1 + r.IntN(limbs) {
		limb := r.Int64N(1 << 24)
		if special := []int64{0, 0, 1, 1 << 23, 1<<24 - 2, 1<<24 - 1, 1<<24 - 1}; kind > 0 && r.IntN(4) > 0 {
			limb = special[r.IntN(len(special))]
		}
		n.Add(n.Lsh(n, 24), big.NewInt(limb))
	}
	n.Rsh(n, uint(r.IntN(24)))
	if r.IntN(2) == 0 {
		n.Neg(n)
	}
	return n
}

// forIntegerPairs calls check with all pairs of corners and with random ones, until the test has
// failed.
func forIntegerPairs(t *testing.T, seed uint64, check func(a, b *big.Int)) {
	r := newRandom(seed)
	corners := cornerWholes()
	for _, a := range corners {
		for _, b := range corners {
			check(a, b)
		}
		if t.Failed() {
			return
		}
	}
	for range 8000 {
		limbs := []int{2, 4, 9, 100, 200}[r.IntN(5)]
		a, b := anyInteger(r, limbs), anyInteger(r, 1+r.IntN(limbs))
		if r.IntN(8) == 0 {
			// Where the second one almost divides the first one, quotients are hard to guess.
			if c := new(big.Int).Add(new(big.Int).Mul(a, b), big.NewInt(int64(r.IntN(3)-1))); !isTooLarge(c) {
				a = c
			}
		}
		check(a, b)
		if t.Failed() {
			return
		}
	}
}

// forIntegers calls check with all corners and with random numbers, until the test has failed.
func forIntegers(t *testing.T, seed uint64, check func(a *big.Int)) {
	r := newRandom(seed)
	for _, a := range cornerWholes() {
		check(a)
	}
	for range 2000 {
		check(anyInteger(r, []int{2, 4, 9, 100, 200}[r.IntN(5)]))
		if t.Failed() {
			return
		}
	}
}

// badWholes are no whole numbers.
func badWholes() map[string]impl.Whole {
	full := slices.Repeat([]int64{1}, impl.MaxLimbs)
	return map[string]impl.Whole{
		"no sign":                {Sign: 0, Limbs: []int64{1}},
		"no sign, limb 0":        {Sign: 0, Limbs: []int64{0}},
		"no limbs":               {Sign: 1},
		"no limbs, negative":     {Sign: -1, Limbs: []int64{}},
		"sign 2":                 {Sign: 2, Limbs: []int64{1}},
		"sign -2":                {Sign: -2, Limbs: []int64{1}},
		"sign 2 of 0":            {Sign: 2},
		"greatest sign":          {Sign: math.MaxInt64, Limbs: []int64{1}},
		"least sign":             {Sign: math.MinInt64, Limbs: []int64{1}},
		"last limb 0":            {Sign: 1, Limbs: []int64{1, 0}},
		"only limb 0":            {Sign: -1, Limbs: []int64{0}},
		"limb too large":         {Sign: 1, Limbs: []int64{1 << 24}},
		"first limb too large":   {Sign: 1, Limbs: []int64{1 << 24, 1}},
		"limb much too large":    {Sign: 1, Limbs: []int64{1, math.MaxInt64, 1}},
		"negative limb":          {Sign: 1, Limbs: []int64{-1, 1}},
		"last limb negative":     {Sign: 1, Limbs: []int64{1, -1}},
		"least limb":             {Sign: -1, Limbs: []int64{1, math.MinInt64, 1}},
		"too many limbs":         {Sign: 1, Limbs: append(full, 1)},
		"too many limbs, last 0": {Sign: 1, Limbs: append(full, 0)},
		"too many limbs of 0":    {Sign: 0, Limbs: make([]int64, impl.MaxLimbs+1)},
	}
}
