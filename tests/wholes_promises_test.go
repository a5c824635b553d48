package tests

import (
	"math/big"
	"testing"

	"loop.example/g01156/impl"
)

// size is the absolute value.
func size(a impl.Whole) impl.Whole {
	return impl.Whole{Sign: a.Sign * a.Sign, Limbs: a.Limbs}
}

// order compares two whole numbers.
func order(t *testing.T, a, b impl.Whole) int64 {
	t.Helper()
	n, code := impl.CompareWholes(a, b)
	if code != impl.ErrNone {
		t.Errorf("CompareWholes(%v, %v): code %d", a, b, code)
	}
	return n
}

func TestPromise2QuotientsAndRemainders(t *testing.T) {
	forIntegerPairs(t, 41, func(m, n *big.Int) {
		a, b := wholeOf(m), wholeOf(n)
		if n.Sign() == 0 {
			return
		}
		quotient, rest, code := impl.DivideWholes(a, b)
		if code != impl.ErrNone || !impl.IsWhole(quotient) || !impl.IsWhole(rest) {
			t.Fatalf("DivideWholes(%v, %v) = %v, %v, %d", m, n, quotient, rest, code)
		}
		if order(t, size(rest), size(b)) >= 0 || rest.Sign != 0 && rest.Sign != a.Sign {
			t.Errorf("DivideWholes(%v, %v) has the remainder %v", m, n, integerOf(rest))
		}
		product, _ := impl.MultiplyWholes(quotient, b)
		sum, _ := impl.AddWholes(product, rest)
		checkWhole(t, "the quotient times the divisor plus the remainder", sum, code, m, impl.ErrNone)
		// The same, found by other means.
		exactly := new(big.Int).Mul(integerOf(quotient), n)
		if exactly.Add(exactly, integerOf(rest)).Cmp(m) != 0 {
			t.Errorf("DivideWholes(%v, %v) = %v, %v", m, n, integerOf(quotient), integerOf(rest))
		}
	})
}

func TestPromise2SquaresOfRoots(t *testing.T) {
	one := whole("1")
	check := func(n *big.Int) {
		a := wholeOf(n)
		root, code := impl.RootOfWhole(a)
		if code != impl.ErrNone || !impl.IsWhole(root) || root.Sign < 0 {
			t.Fatalf("RootOfWhole(%v) = %v, %d", n, root, code)
		}
		square, _ := impl.MultiplyWholes(root, root)
		next, _ := impl.AddWholes(root, one)
		more, code := impl.MultiplyWholes(next, next)
		if order(t, square, a) > 0 || code == impl.ErrNone && order(t, more, a) <= 0 {
			t.Errorf("RootOfWhole(%v) = %v", n, integerOf(root))
		}
		if root := integerOf(root); root.Cmp(new(big.Int).Sqrt(n)) != 0 {
			t.Errorf("RootOfWhole(%v) = %v, want %v", n, root, new(big.Int).Sqrt(n))
		}
	}
	forIntegers(t, 42, func(n *big.Int) {
		check(new(big.Int).Abs(n))
		// Squares, and the numbers beside them.
		square := new(big.Int).Mul(n, n)
		for range 3 {
			if !isTooLarge(square) {
				check(square)
			}
			if square = new(big.Int).Sub(square, big.NewInt(1)); square.Sign() < 0 {
				return
			}
		}
	})
}

func TestPromise2TextsAreParsed(t *testing.T) {
	forIntegers(t, 43, func(n *big.Int) {
		text, code := impl.WholeText(wholeOf(n))
		if text != n.String() || code != impl.ErrNone {
			t.Errorf("WholeText of %v = %q, %d", n, text, code)
		}
		a, code := impl.ParseWhole(text)
		checkWhole(t, "ParseWhole of "+text, a, code, n, impl.ErrNone)
	})
}

func TestShiftsForthAndBack(t *testing.T) {
	r := newRandom(44)
	forIntegers(t, 45, func(n *big.Int) {
		k := r.Int64N(4801 - int64(n.BitLen()))
		up, code := impl.ShiftWhole(wholeOf(n), k)
		if code != impl.ErrNone {
			t.Errorf("ShiftWhole(%v, %d): code %d", n, k, code)
		}
		down, code := impl.ShiftWhole(up, -k)
		checkWhole(t, "shifted forth and back", down, code, n, impl.ErrNone)
	})
}

func TestCommonDivisorsDivide(t *testing.T) {
	r := newRandom(46)
	for range 300 {
		m, n := anyInteger(r, 60), anyInteger(r, 40)
		common, code := impl.CommonOfWholes(wholeOf(m), wholeOf(n))
		if code != impl.ErrNone || common.Sign < 0 {
			t.Errorf("CommonOfWholes(%v, %v) = %v, %d", m, n, common, code)
		}
		if common.Sign == 0 {
			continue
		}
		for _, multiple := range []*big.Int{m, n} {
			if _, rest, code := impl.DivideWholes(wholeOf(multiple), common); rest.Sign != 0 || code != impl.ErrNone {
				t.Errorf("%v is no divisor of %v", integerOf(common), multiple)
			}
		}
	}
}
