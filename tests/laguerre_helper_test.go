package tests

import (
	"fmt"
	"math"
	"math/big"
	"math/rand/v2"
	"testing"

	"loop.example/g01156/impl"
)

// exactRootOf is on the same side of all floats, and of all numbers half way between two of them, as
// the square root of a number of at least 0.
func exactRootOf(b binary) *big.Float {
	up := uint(max(300-b.whole.BitLen(), 0))
	up += uint((b.exponent - int64(up)) & 1)
	square := new(big.Int).Lsh(b.whole, up)
	root := new(big.Int).Sqrt(square)
	twice := new(big.Int).Lsh(root, 1)
	if root.Mul(root, root).Cmp(square) != 0 {
		twice.Add(twice, big.NewInt(1))
	}
	return floatOf(binary{twice, (b.exponent-int64(up))/2 - 1})
}

func rootOf(x float64) float64 {
	if x == 0 {
		return x
	}
	return rounded(exactRootOf(valueOf(x)))
}

// squareSum is the sum of the exact squares of both parts.
func squareSum(z complex128) binary {
	x, y := valueOf(real(z)), valueOf(imag(z))
	return plus(times(x, x), times(y, y))
}

// modulusByParts is infinite where the modulus is not finite.
func modulusByParts(z complex128) float64 {
	return rounded(exactRootOf(squareSum(z)))
}

func (o inOrder) float(x float64) float64 {
	return real(o.kept(complex(x, 0)))
}

func (o inOrder) root(z complex128) complex128 {
	if z == 0 {
		return 0
	}
	m := o.float(modulusByParts(z))
	u := o.float(quotientOf(o.float(sumOf(math.Abs(real(z)), m)), 2))
	t := rootOf(u)
	if t == 0 {
		panic(failedOperation(impl.ErrLimit))
	}
	v := o.float(quotientOf(math.Abs(imag(z)), o.float(productOf(2, t))))
	sign := 1.0
	if imag(z) < 0 {
		sign = -1
	}
	if real(z) >= 0 {
		return complex(t, sign*v)
	}
	return complex(v, sign*t)
}

func (o inOrder) bend(p []complex128, z complex128) complex128 {
	n := len(p) - 1
	if n == 1 {
		return 0
	}
	bend := o.product(complex(float64(n*(n-1)), 0), p[n])
	for k := n - 1; k >= 2; k-- {
		bend = o.sum(o.product(bend, z), o.product(complex(float64(k*(k-1)), 0), p[k]))
	}
	return bend
}

func (o inOrder) laguerre(p []complex128, z complex128) complex128 {
	value := o.value(p, z)
	if value == 0 {
		return 0
	}
	n := complex(float64(len(p)-1), 0)
	g := o.quotient(o.slope(p, z), value)
	h := o.difference(o.product(g, g), o.quotient(o.bend(p, z), value))
	s := o.root(o.product(n-1, o.difference(o.product(n, h), o.product(g, g))))
	above, below := o.sum(g, s), o.difference(g, s)
	if o.size(above) >= o.size(below) {
		return o.quotient(n, above)
	}
	return o.quotient(n, below)
}

func (o inOrder) newton(p []complex128, z complex128) complex128 {
	value := o.value(p, z)
	if value == 0 {
		return 0
	}
	return o.quotient(value, o.slope(p, z))
}

func (o inOrder) walk(p []complex128, z complex128, bound float64, most int64) impl.Walk {
	walk := impl.Walk{Point: z}
	for walk.Steps < most && !walk.Still {
		c := o.laguerre(p, walk.Point)
		walk.Point = o.difference(walk.Point, c)
		walk.Last = o.size(c)
		walk.Steps++
		walk.Still = walk.Last <= bound
	}
	return walk
}

func (o inOrder) polished(p []complex128, z complex128, most int64) impl.Walk {
	walk := impl.Walk{Point: z}
	for walk.Steps < most {
		value := o.value(p, walk.Point)
		if value == 0 {
			walk.Still = true
			break
		}
		c := o.newton(p, walk.Point)
		point := o.difference(walk.Point, c)
		if after := o.size(o.value(p, point)); !(after < o.size(value)) {
			walk.Still = true
			break
		}
		walk.Point, walk.Last = point, o.size(c)
		walk.Steps++
	}
	return walk
}

func (o inOrder) rootsByDeflation(p []complex128) []complex128 {
	var roots []complex128
	rest := p
	for len(rest) > 2 {
		walk := o.walk(rest, 0, 0.0000001, 100)
		if !walk.Still {
			panic(failedOperation(impl.ErrNotFound))
		}
		root := o.polished(p, walk.Point, 5).Point
		q, _, code := deflationByParts(rest, root)
		if code != impl.ErrNone {
			panic(failedOperation(code))
		}
		roots, rest = append(roots, root), q
	}
	return append(roots, o.polished(p, o.quotient(-rest[0], rest[1]), 5).Point)
}

func checkWalk(t *testing.T, name string, walk impl.Walk, code int64, want impl.Walk, wantCode int64) {
	t.Helper()
	if wantCode != impl.ErrNone {
		want = impl.Walk{}
	}
	isSame := sameWide(walk.Point, want.Point) && sameFloat(walk.Last, want.Last)
	if !isSame || walk.Steps != want.Steps || walk.Still != want.Still || code != wantCode {
		t.Errorf("%s = %v, %d, want %v, %d", name, walk, code, want, wantCode)
	}
}

func checkLaguerreWalk(t *testing.T, p []complex128, z complex128, bound float64, most int64, want impl.Walk, wantCode int64) {
	t.Helper()
	walk, code := impl.LaguerreWalk(p, z, bound, most)
	checkWalk(t, fmt.Sprintf("LaguerreWalk(%v, %v, %g, %d)", p, z, bound, most), walk, code, want, wantCode)
}

func checkPolishRoot(t *testing.T, p []complex128, z complex128, most int64, want impl.Walk, wantCode int64) {
	t.Helper()
	walk, code := impl.PolishRoot(p, z, most)
	checkWalk(t, fmt.Sprintf("PolishRoot(%v, %v, %d)", p, z, most), walk, code, want, wantCode)
}

func checkDeflationRoots(t *testing.T, p []complex128, want []complex128, wantCode int64) {
	t.Helper()
	roots, code := impl.RootsByDeflation(p)
	checkCoefficients(t, fmt.Sprintf("RootsByDeflation(%v)", p), roots, code, want, wantCode)
}

// wholeRoots gives a polynomial of small whole roots, some of which may be met more than once, and
// these.
func wholeRoots(r *rand.Rand, degree int) ([]complex128, []complex128) {
	roots := differentRoots(r, degree)
	for range r.IntN(degree + 1) {
		roots[r.IntN(degree)] = roots[r.IntN(degree)]
	}
	p, _ := rootsByParts(roots)
	return p, roots
}

func manyRoots(r *rand.Rand, degree int) []complex128 {
	p, _ := wholeRoots(r, degree)
	return p
}

// sparseWholes gives a polynomial of small whole coefficients, many of which are 0.
func sparseWholes(r *rand.Rand) []complex128 {
	p := wholeNumbers(r, 1+r.IntN(6))
	for n := range p {
		if r.IntN(2) == 0 {
			p[n] = append(minusZeros, 0)[r.IntN(4)]
		}
	}
	return append(p, []complex128{1, -2, 1i}[r.IntN(3)])
}

// anyWalked gives a polynomial and a number of one of several kinds: medium ones, small whole ones,
// roots that are met more than once, far apart in size, and those of values.
func anyWalked(r *rand.Rand) ([]complex128, complex128) {
	switch r.IntN(8) {
	case 0:
		return mediumPolynomial(r), spreadNumbers(r, 1, -4, 3)[0]
	case 1:
		return spreadNumbers(r, 2+r.IntN(12), -20, 20), spreadNumbers(r, 1, -10, 10)[0]
	case 2:
		p := append(wholeNumbers(r, 1+r.IntN(12)), 1)
		return p, wholeNumbers(r, 1)[0]
	case 3:
		return manyRoots(r, 1+r.IntN(12)), spreadNumbers(r, 1, -4, 3)[0]
	case 4:
		return spreadNumbers(r, 2+r.IntN(12), -600, 600), spreadNumbers(r, 1, -60, 60)[0]
	case 5:
		return spreadNumbers(r, 2+r.IntN(12), 1010, 1024), spreadNumbers(r, 1, -20, 4)[0]
	default:
		return anyPointOf(r)
	}
}
