package impl

import "math"

// The error codes of all chapters.
const (
	ErrNone = iota
	ErrInvalid
	ErrRange
	ErrLimit
	ErrNotFound
	ErrState
	ErrSyntax
)

const (
	maxPower   = 64
	maxScale   = 2200
	maxNumbers = 100
)

// IsFinite reports whether a wide number is finite.
func IsFinite(z complex128) bool {
	return isFiniteFloat(real(z)) && isFiniteFloat(imag(z))
}

// IsFiniteNarrow reports whether a narrow number is finite.
func IsFiniteNarrow(z complex64) bool {
	return IsFinite(complex128(z))
}

// AddWide returns the sum of two wide numbers, and ErrNone.
func AddWide(a complex128, b complex128) (complex128, int64) {
	if !IsFinite(a) || !IsFinite(b) {
		return 0, ErrInvalid
	}
	return limitWide(a + b)
}

// SubtractWide returns the difference, a less b, and ErrNone.
func SubtractWide(a complex128, b complex128) (complex128, int64) {
	if !IsFinite(a) || !IsFinite(b) {
		return 0, ErrInvalid
	}
	return limitWide(a - b)
}

// MultiplyWide returns the product of two wide numbers, and ErrNone.
func MultiplyWide(a complex128, b complex128) (complex128, int64) {
	if !IsFinite(a) || !IsFinite(b) {
		return 0, ErrInvalid
	}
	return limitWide(productWide(a, b))
}

// DivideWide returns the quotient of two wide numbers, and ErrNone. Errors: ErrState if b is 0.
func DivideWide(a complex128, b complex128) (complex128, int64) {
	if !IsFinite(a) || !IsFinite(b) {
		return 0, ErrInvalid
	}
	if b == 0 {
		return 0, ErrState
	}
	return limitWide(a / b)
}

// AddNarrow returns the sum of two narrow numbers, and ErrNone.
func AddNarrow(a complex64, b complex64) (complex64, int64) {
	if !IsFiniteNarrow(a) || !IsFiniteNarrow(b) {
		return 0, ErrInvalid
	}
	return limitNarrow(a + b)
}

// SubtractNarrow returns the difference, a less b, and ErrNone.
func SubtractNarrow(a complex64, b complex64) (complex64, int64) {
	if !IsFiniteNarrow(a) || !IsFiniteNarrow(b) {
		return 0, ErrInvalid
	}
	return limitNarrow(a - b)
}

// MultiplyNarrow returns the product of two narrow numbers, and ErrNone.
func MultiplyNarrow(a complex64, b complex64) (complex64, int64) {
	if !IsFiniteNarrow(a) || !IsFiniteNarrow(b) {
		return 0, ErrInvalid
	}
	return limitNarrow(complex64(productWide(complex128(a), complex128(b))))
}

// DivideNarrow returns the quotient of two narrow numbers, and ErrNone. Errors: ErrState if b is
// 0.
func DivideNarrow(a complex64, b complex64) (complex64, int64) {
	if !IsFiniteNarrow(a) || !IsFiniteNarrow(b) {
		return 0, ErrInvalid
	}
	if b == 0 {
		return 0, ErrState
	}
	return limitNarrow(a / b)
}

// WidenOf returns a narrow number as a wide one, and ErrNone.
func WidenOf(z complex64) (complex128, int64) {
	if !IsFiniteNarrow(z) {
		return 0, ErrInvalid
	}
	return complex128(z), ErrNone
}

// NarrowOf returns a wide number with its parts rounded to 32 bits, and ErrNone.
func NarrowOf(z complex128) (complex64, int64) {
	if !IsFinite(z) {
		return 0, ErrInvalid
	}
	return limitNarrow(complex64(z))
}

// IsExactNarrow reports whether a wide number does not change if it is made narrow and then wide
// again (compared by ==, so that -0 and 0 are equal), and returns ErrNone; it reports false if the
// narrow number would not be finite.
func IsExactNarrow(z complex128) (bool, int64) {
	if !IsFinite(z) {
		return false, ErrInvalid
	}
	// A narrow number that is not finite is not equal to z, which is.
	return complex128(complex64(z)) == z, ErrNone
}

// SizeOf returns the size of a wide number, and ErrNone.
func SizeOf(z complex128) (float64, int64) {
	if !IsFinite(z) {
		return 0, ErrInvalid
	}
	size := sizeWide(z)
	if !isFiniteFloat(size) {
		return 0, ErrLimit
	}
	return size, ErrNone
}

// SizeOfNarrow returns the size of a narrow number, and ErrNone.
func SizeOfNarrow(z complex64) (float32, int64) {
	if !IsFiniteNarrow(z) {
		return 0, ErrInvalid
	}
	size := absoluteNarrow(real(z)) + absoluteNarrow(imag(z))
	if !isFiniteFloat(float64(size)) {
		return 0, ErrLimit
	}
	return size, ErrNone
}

// LargerPart returns the larger part of a wide number, and ErrNone.
func LargerPart(z complex128) (float64, int64) {
	if !IsFinite(z) {
		return 0, ErrInvalid
	}
	return max(math.Abs(real(z)), math.Abs(imag(z))), ErrNone
}

// ConjugateOf returns the number with the opposite of the imaginary part (with its sign changed,
// also that of 0), and ErrNone.
func ConjugateOf(z complex128) (complex128, int64) {
	if !IsFinite(z) {
		return 0, ErrInvalid
	}
	return complex(real(z), -imag(z)), ErrNone
}

// PowerWide returns 1, multiplied k times by z, for k in 0..64, and ErrNone: each time the number
// so far is the first factor of the product.
func PowerWide(z complex128, k int64) (complex128, int64) {
	if !IsFinite(z) {
		return 0, ErrInvalid
	}
	if k < 0 || k > maxPower {
		return 0, ErrRange
	}
	power := complex128(1)
	for range k {
		power = productWide(power, z)
		if !IsFinite(power) {
			return 0, ErrLimit
		}
	}
	return power, ErrNone
}

// ScaleWide returns z with both parts doubled k times, or, for negative k, halved -k times, each
// time rounded, for k in -2200..2200, and ErrNone.
func ScaleWide(z complex128, k int64) (complex128, int64) {
	if !IsFinite(z) {
		return 0, ErrInvalid
	}
	if k < -maxScale || k > maxScale {
		return 0, ErrRange
	}
	factor, times := 2.0, k
	if k < 0 {
		factor, times = 0.5, -k
	}
	// One product by 2^k would round a number that gets too small just once.
	re, im := real(z), imag(z)
	for range times {
		re *= factor
		im *= factor
	}
	return limitWide(complex(re, im))
}

// SumOfList returns the sum of at most 100 wide numbers, beginning with 0 and adding one after the
// other, in order, and ErrNone. Errors: ErrRange also if there are more, before ErrInvalid.
func SumOfList(list []complex128) (complex128, int64) {
	if code := checkList(list); code != ErrNone {
		return 0, code
	}
	sum := complex128(0)
	for _, z := range list {
		sum += z
		if !IsFinite(sum) {
			return 0, ErrLimit
		}
	}
	return sum, ErrNone
}

// ProductOfList returns the product of at most 100 wide numbers, beginning with 1 and multiplying
// by one after the other, in order, the number so far being the first factor, and ErrNone. Errors:
// ErrRange also if there are more, before ErrInvalid.
func ProductOfList(list []complex128) (complex128, int64) {
	if code := checkList(list); code != ErrNone {
		return 0, code
	}
	product := complex128(1)
	for _, z := range list {
		product = productWide(product, z)
		if !IsFinite(product) {
			return 0, ErrLimit
		}
	}
	return product, ErrNone
}

// productWide rounds each product of parts by an explicit conversion: without it, the operator *
// of complex numbers may fuse a product with the sum that uses it.
func productWide(a complex128, b complex128) complex128 {
	re := float64(real(a)*real(b)) - float64(imag(a)*imag(b))
	im := float64(real(a)*imag(b)) + float64(imag(a)*real(b))
	return complex(re, im)
}

func sizeWide(z complex128) float64 {
	return math.Abs(real(z)) + math.Abs(imag(z))
}

func limitWide(z complex128) (complex128, int64) {
	if !IsFinite(z) {
		return 0, ErrLimit
	}
	return z, ErrNone
}

func limitNarrow(z complex64) (complex64, int64) {
	if !IsFiniteNarrow(z) {
		return 0, ErrLimit
	}
	return z, ErrNone
}

func checkList(list []complex128) int64 {
	if len(list) > maxNumbers {
		return ErrRange
	}
	if !areFinite(list) {
		return ErrInvalid
	}
	return ErrNone
}

// areFinite reports whether all numbers of a list of either width are finite.
func areFinite[C coefficient](list []C) bool {
	for _, z := range list {
		if !IsFinite(complex128(z)) {
			return false
		}
	}
	return true
}

func isFiniteFloat(x float64) bool {
	return !math.IsInf(x, 0) && !math.IsNaN(x)
}

func absoluteNarrow(x float32) float32 {
	return float32(math.Abs(float64(x)))
}
