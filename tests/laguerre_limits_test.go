package tests

import (
	"testing"

	"loop.example/g01156/impl"
)

// Values, slopes and bends that are not finite, although the corrections could be.
func TestLimitsOfValuesSlopesAndBends(t *testing.T) {
	limit := fails(impl.ErrLimit)
	checkPointCases(t, []pointCase{
		{realList(0, 0, 1), 1e200, limit, limit},
		{realList(0x1p1023, 0x1p1023), 1, limit, limit},
		{realList(-0x1p1023, 0x1p1023), 2, limit, limit},
		{realList(-0x1p1023, 0x1p1023), 1.5, is(0.5), is(0.5)},
		// Coefficients of slopes: 2 times a(2).
		{realList(1, 1, 0x1p1023), 0, limit, limit},
		{realList(1, 1, 0x1p1022), 0, limit, is(1)},
		{realList(1, 0, 0, 0x1.8p1022), 0, limit, limit},
		// Sums and products of slopes.
		{realList(0, 0x1p1023, 0x1p1022), 1, limit, limit},
		{realList(1, 0, -0x1p1022, 0x1.8p1021), 2, limit, limit},
		// Coefficients of bends: 6 times a(3), and 132 times a(12).
		{realList(1, 1, 0, 0x1p1021), 0, is(1), is(1)},
		{realList(1, 1, 0, 0x1.8p1021), 0, limit, is(1)},
		{append(realList(1, 1), append(make([]complex128, 10), 0x1p1016)...), 0, is(1), is(1)},
		{append(realList(1, 1), append(make([]complex128, 10), 0x1p1017)...), 0, limit, is(1)},
		// A product within the bend.
		{realList(1, 1, 0, 0x1p1021), 1.5, limit, is(0.5)},
	})
}

// Quotients, products, sums and roots of a correction of Laguerre that are not finite. At 0, the value
// is a(0), the slope a(1), and the bend 2 a(2).
func TestLimitsOfCorrectionsOfLaguerre(t *testing.T) {
	limit, state := fails(impl.ErrLimit), fails(impl.ErrState)
	for _, c := range []struct {
		p    []complex128
		want answer
	}{
		// The quotient of slope and value.
		{realList(0x1p-1000, 0x1p100), limit},
		{realList(0x1p-1000, 0x1p100, 1), limit},
		// The square of this, also for degree 1.
		{realList(1, 0x1p512), limit},
		{realList(1, 0x1p511), is(0x1p-511)},
		{[]complex128{1, 0x1p512i}, limit},
		// The quotient of bend and value.
		{realList(0x1p-500, 0, 0x1p600), limit},
		{realList(0x1p-500, 0, -0x1p523), limit},
		{realList(0x1p-300, 0, -0x1p721), limit},
		// The product of n and h.
		{realList(1, 0x1.8p511, 0x1p1000), limit},
		{realList(1, 0x1.4p511, 0x1p-500), is(0x1.999999999999ap-512)},
		// The difference of the square and the quotient, and that of the product of n and h and the square.
		{[]complex128{1, 0x1.6p511i, 0x1.1p1023}, limit},
		{[]complex128{1, 0x1.4p511i, -0x1.68p1022}, limit},
		// The product with n - 1.
		{realList(1, 0, -0x1p1020, 1), limit},
		{realList(1, 0, -0x1p1018, 1), is(quotientByParts(3, 0x1.bb67ae8584caap510))},
		// The sum within the root.
		{realList(1, 0, -0x1p1021), limit},
		{realList(1, 0, -0x1p1020), is(0x1p-510)},
		// The quotient of n and d, and a d of 0.
		{realList(0x1p1000, 0x1p-60), limit},
		{realList(0x1p1000, 0x1p-23), is(0x1p1023)},
		{realList(0x1p1000, 0x1p-200), state},
		{realList(0x1p1000, 0x1p-60, 0x1p-1070), limit},
		{realList(0x1p1000, 0x1p-200, 0x1p-1070), state},
		// What is used within the last quotient may be infinite.
		{[]complex128{0x1p1000, complex(0x1p-24, 0x1p-24)}, is(complex(0x1p1023, -0x1p1023))},
	} {
		checkLaguerre(t, c.p, 0, c.want.z, c.want.code)
		checkInOrderAt(t, c.p, 0)
	}
}

func TestLimitsOfCorrectionsOfNewton(t *testing.T) {
	for _, c := range []pointCase{
		{p: realList(0x1p1000, 0x1p-60), newton: fails(impl.ErrLimit)},
		{p: realList(0x1p1000, 0x1p-23), newton: is(0x1p1023)},
		{p: realList(0x1p1000, 0x1p-60, 1, 1), newton: fails(impl.ErrLimit)},
		{p: realList(0x1p-1000, 0x1p100), newton: is(0)},
		{p: realList(-0x1p-1000, 0x1p100), newton: is(complex(negative, 0))},
		{p: realList(0x1p-600, 1), newton: is(0x1p-600)},
		{p: []complex128{1, complex(0x1p1023, 0x1p1023)}, newton: is(complex(0, negative))},
	} {
		checkNewton(t, c.p, 0, c.newton.z, c.newton.code)
	}
}
