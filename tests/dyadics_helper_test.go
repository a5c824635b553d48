package tests

import (
	"fmt"
	"math/big"
	"math/rand/v2"
	"strconv"
	"strings"
	"testing"

	"loop.example/g01156/impl"
)

// binary is the number whole times 2^exponent, in any form and of any size.
type binary struct {
	whole    *big.Int
	exponent int64
}

// String has no decimal digits of the whole number, which would take long to find.
func (b binary) String() string {
	return fmt.Sprintf("%#xp%d", b.whole, b.exponent)
}

// number reads a whole number (as integer does), p, and an exponent.
func number(text string) binary {
	front, behind, _ := strings.Cut(text, "p")
	exponent, err := strconv.ParseInt(behind, 10, 64)
	if err != nil {
		panic("no number: " + text)
	}
	return binary{integer(front), exponent}
}

func dyadic(text string) impl.Dyadic {
	return dyadicOf(number(text))
}

// reducedOf is the same number with an odd whole number, or with the exponent 0.
func reducedOf(b binary) binary {
	if b.whole.Sign() == 0 {
		return binary{b.whole, 0}
	}
	twos := b.whole.TrailingZeroBits()
	return binary{new(big.Int).Rsh(b.whole, twos), b.exponent + int64(twos)}
}

// dyadicOf makes the exact number of any number, also of one that is too large.
func dyadicOf(b binary) impl.Dyadic {
	b = reducedOf(b)
	return impl.Dyadic{Whole: wholeOf(b.whole), Exponent: b.exponent}
}

func binaryOf(d impl.Dyadic) binary {
	return binary{integerOf(d.Whole), d.Exponent}
}

// multiplesOf is b as a number of multiples of 2^place, where there is one.
func multiplesOf(b binary, place int64) *big.Int {
	return new(big.Int).Lsh(b.whole, uint(b.exponent-place))
}

func plus(a, b binary) binary {
	place := min(a.exponent, b.exponent)
	return binary{new(big.Int).Add(multiplesOf(a, place), multiplesOf(b, place)), place}
}

func negated(a binary) binary {
	return binary{new(big.Int).Neg(a.whole), a.exponent}
}

func minus(a, b binary) binary {
	return plus(a, negated(b))
}

func times(a, b binary) binary {
	return binary{new(big.Int).Mul(a.whole, b.whole), a.exponent + b.exponent}
}

// floorOf is the greatest multiple of 2^-k that is not greater than b.
func floorOf(b binary, k int64) binary {
	if b.exponent >= -k {
		return b
	}
	return binary{new(big.Int).Rsh(b.whole, uint(-k-b.exponent)), -k}
}

func ceilOf(b binary, k int64) binary {
	return negated(floorOf(negated(b), k))
}

// floatOf has all bits of b.
func floatOf(b binary) *big.Float {
	x := new(big.Float).SetPrec(uint(max(b.whole.BitLen(), 1))).SetInt(b.whole)
	return x.SetMantExp(x, int(b.exponent))
}

// valueOf is the exact value of a finite float.
func valueOf(x float64) binary {
	mantissa := new(big.Float)
	exponent := big.NewFloat(x).MantExp(mantissa)
	whole, _ := mantissa.SetMantExp(mantissa, 53).Int(nil)
	return reducedOf(binary{whole, int64(exponent - 53)})
}

// dyadicCode is the code that goes with a result.
func dyadicCode(b binary) int64 {
	b = reducedOf(b)
	if isTooLarge(b.whole) || b.exponent < -5000 || b.exponent > 5000 {
		return impl.ErrLimit
	}
	return impl.ErrNone
}

func sameDyadic(c, d impl.Dyadic) bool {
	return sameWhole(c.Whole, d.Whole) && c.Exponent == d.Exponent
}

// checkDyadic compares a result with the number that is wanted, or with the zero value if a code
// other than ErrNone is.
func checkDyadic(t *testing.T, name string, d impl.Dyadic, code int64, want binary, wantCode int64) {
	t.Helper()
	var wanted impl.Dyadic
	if wantCode == impl.ErrNone {
		wanted = dyadicOf(want)
	}
	if code != wantCode || !sameDyadic(d, wanted) {
		t.Errorf("%s = %v, %d, want %v, %d", name, binaryOf(d), code, binaryOf(wanted), wantCode)
	}
}

func checkExact(t *testing.T, name string, e impl.Exact, code int64, re, im binary, wantCode int64) {
	t.Helper()
	checkDyadic(t, name+", real part,", e.Real, code, re, wantCode)
	checkDyadic(t, name+", imaginary part,", e.Imag, code, im, wantCode)
}

// cornerBinaries are exact numbers at the ends of floats of both widths, of exponents, and of whole
// numbers, with both signs.
func cornerBinaries() []binary {
	texts := []string{
		"1p0", "3p-2", "5p-1", "1p1", "1p-1074", "1p-1075", "3p-1075", "1p-1022", "2^52-1p-1074", "2^53-1p-1075",
		"2^53-1p971", "2^54-1p970", "2^55-3p969", "1p1023", "1p1024", "2^53+1p0", "2^53+3p0", "1p-149", "1p-150",
		"3p-150", "2^23-1p-149", "2^24-1p-150", "1p-126", "2^24-1p104", "2^25-1p103", "2^26-3p102", "1p127", "1p128",
		"2^24+1p0", "2^24+3p0", "2^60+1p-60", "2^25+1p-100", "1p199", "1p200", "2^400-1p0", "2^401-1p-1",
		"2^4800-1p-4400", "1p400", "1p2500", "1p-2500", "1p2501", "1p-2501", "2^2399+1p0", "2^2400-1p7",
		"2^2400+1p-7", "2^4799+1p0", "2^4800-1p0", "2^4800-1p5000", "2^4800-1p-5000", "1p5000", "1p-5000",
		"3p5000", "3p-5000", "1p4799", "1p4800", "1p999", "2^4800-1p999", "2^4799+1p999",
	}
	all := []binary{number("0p0")}
	for _, text := range texts {
		all = append(all, number(text), negated(number(text)))
	}
	return all
}

// anyBinary gives an exact number of one of several kinds: a corner, the value of a float of either
// width, one that is almost half way between two floats, a short one, or one with any bits.
func anyBinary(r *rand.Rand) binary {
	switch r.IntN(8) {
	case 0:
		corners := cornerBinaries()
		return corners[r.IntN(len(corners))]
	case 1:
		return valueOf(anyFloat(r))
	case 2:
		return valueOf(float64(anyFloatNarrow(r)))
	case 3:
		return besideFloat(r)
	case 4:
		return reducedOf(binary{anyInteger(r, 4), r.Int64N(400) - 200})
	default:
		b := reducedOf(binary{anyInteger(r, []int{2, 4, 9, 100, 200}[r.IntN(5)]), r.Int64N(9701) - 5000})
		if dyadicCode(b) != impl.ErrNone {
			return binary{b.whole, 0}
		}
		return b
	}
}

// besideFloat gives a float, or the number half way to the next one, or one so near to it that just
// the exact number tells on which side it is.
func besideFloat(r *rand.Rand) binary {
	value, bits, least := valueOf(anyFloat(r)), int64(53), int64(-1074)
	if r.IntN(2) == 0 {
		value, bits, least = valueOf(float64(anyFloatNarrow(r))), 24, -149
	}
	half := max(int64(value.whole.BitLen())+value.exponent-bits, least) - 1
	for range r.IntN(3) {
		value = plus(value, binary{big.NewInt(1), half})
	}
	return reducedOf(plus(value, binary{big.NewInt(r.Int64N(3) - 1), half - 1 - r.Int64N(200)}))
}

// forBinaries calls check with all corners and with random numbers, until the test has failed.
func forBinaries(t *testing.T, seed uint64, check func(b binary)) {
	r := newRandom(seed)
	for _, b := range cornerBinaries() {
		check(b)
	}
	for range 4000 {
		check(anyBinary(r))
		if t.Failed() {
			return
		}
	}
}

// forBinaryPairs calls check with all pairs of corners and with random ones, until the test has
// failed.
func forBinaryPairs(t *testing.T, seed uint64, check func(a, b binary)) {
	r := newRandom(seed)
	corners := cornerBinaries()
	for _, a := range corners {
		for _, b := range corners {
			check(a, b)
		}
		if t.Failed() {
			return
		}
	}
	for range 4000 {
		a, b := anyBinary(r), anyBinary(r)
		if r.IntN(4) == 0 {
			// Sums and differences of neighbours lose many bits.
			if c := plus(a, binary{big.NewInt(r.Int64N(5) - 2), max(a.exponent-r.Int64N(3), -5000)}); dyadicCode(c) == impl.ErrNone {
				b = reducedOf(c)
			}
		}
		check(a, b)
		if t.Failed() {
			return
		}
	}
}

// isRooted reports whether b is a number of at least 0 and less than 2^400.
func isRooted(b binary) bool {
	return b.whole.Sign() == 0 || b.whole.Sign() > 0 && int64(b.whole.BitLen())+b.exponent <= 400
}

// forRoots calls check with a k and a number that has a root above, squares of multiples of 2^-k and
// numbers beside them among them, until the test has failed.
func forRoots(t *testing.T, seed uint64, check func(b binary, k int64)) {
	r := newRandom(seed)
	forBinaries(t, seed, func(b binary) {
		k := r.Int64N(201)
		b = binary{new(big.Int).Abs(b.whole), b.exponent}
		if !isRooted(b) {
			b.exponent = 400 - int64(b.whole.BitLen()) - r.Int64N(100)
		}
		check(reducedOf(b), k)
		root := binary{anyInteger(r, 17), -k}
		root.whole.Abs(root.whole).Rsh(root.whole, uint(max(int64(root.whole.BitLen())-k-r.Int64N(201), 0)))
		square := times(root, root)
		for more := range int64(3) {
			beside := plus(square, binary{big.NewInt(more - 1), square.exponent - r.Int64N(100)})
			if isRooted(beside) {
				check(reducedOf(beside), k)
			}
		}
	})
}

// badDyadics are no exact numbers.
func badDyadics() map[string]impl.Dyadic {
	one := whole("1")
	bad := map[string]impl.Dyadic{
		"even":                     {Whole: whole("2"), Exponent: 0},
		"even, negative":           {Whole: whole("-6"), Exponent: 3},
		"even, first limb 0":       {Whole: whole("2^24+0"), Exponent: 0},
		"even, most limbs":         {Whole: whole("2^4800-2"), Exponent: 0},
		"0 with exponent 1":        {Exponent: 1},
		"0 with exponent -1":       {Exponent: -1},
		"0 with exponent 5000":     {Whole: impl.Whole{Limbs: []int64{}}, Exponent: 5000},
		"exponent 5001":            {Whole: one, Exponent: 5001},
		"exponent -5001":           {Whole: one, Exponent: -5001},
		"exponent 5001, negative":  {Whole: whole("-1"), Exponent: 5001},
		"0 with exponent 5001":     {Exponent: 5001},
		"greatest exponent":        {Whole: one, Exponent: 1<<63 - 1},
		"least exponent":           {Whole: one, Exponent: -1 << 63},
		"0 with greatest exponent": {Exponent: 1<<63 - 1},
		"too large":                {Whole: whole("2^4800+1"), Exponent: 0},
	}
	for why, a := range badWholes() {
		bad["no whole number: "+why] = impl.Dyadic{Whole: a}
	}
	return bad
}
