package tests

import (
	"fmt"
	"slices"
	"testing"

	"loop.example/g01156/impl"
)

// listsFunction is a function of chapter 4 with all its results: lists, and what is not a list as a
// number.
type listsFunction struct {
	count   int
	ofParts bool
	call    func(p, q []complex128) (lists [][]complex128, rest complex128, code int64)
}

func oneList(f func(p []complex128) ([]complex128, int64)) listsFunction {
	return listsFunction{1, false, func(p, _ []complex128) ([][]complex128, complex128, int64) {
		list, code := f(p)
		return [][]complex128{list}, 0, code
	}}
}

func twoLists(ofParts bool, f func(p, q []complex128) ([]complex128, int64)) listsFunction {
	return listsFunction{2, ofParts, func(p, q []complex128) ([][]complex128, complex128, int64) {
		list, code := f(p, q)
		return [][]complex128{list}, 0, code
	}}
}

// listsFunctions are all functions of chapter 4 that have parts or polynomials as arguments.
func listsFunctions(k int64, z complex128, tolerance float64) map[string]listsFunction {
	return map[string]listsFunction{
		"AddParts":        twoLists(true, impl.AddParts),
		"MultiplyParts":   twoLists(true, impl.MultiplyParts),
		"DerivativeOf":    oneList(impl.DerivativeOf),
		"MakeMonic":       oneList(impl.MakeMonic),
		"ScalePolynomial": oneList(func(p []complex128) ([]complex128, int64) { return impl.ScalePolynomial(p, k) }),
		"CommonPart": twoLists(false, func(p, q []complex128) ([]complex128, int64) {
			return impl.CommonPart(p, q, tolerance)
		}),
		"NarrowPolynomial": oneList(func(p []complex128) ([]complex128, int64) {
			list, code := impl.NarrowPolynomial(p)
			return wideList(list), code
		}),
		"DividePolynomial": {2, false, func(p, q []complex128) ([][]complex128, complex128, int64) {
			quotient, remainder, code := impl.DividePolynomial(p, q)
			return [][]complex128{quotient, remainder}, 0, code
		}},
		"DeflateBy": {1, false, func(p, _ []complex128) ([][]complex128, complex128, int64) {
			q, number, code := impl.DeflateBy(p, z)
			return [][]complex128{q}, number, code
		}},
		"EqualPolynomials": {2, false, func(p, q []complex128) ([][]complex128, complex128, int64) {
			same, code := impl.EqualPolynomials(p, q)
			if same {
				return nil, 1, code
			}
			return nil, 0, code
		}},
		"PolynomialText": {1, false, func(p, _ []complex128) ([][]complex128, complex128, int64) {
			text, code := impl.PolynomialText(p)
			return nil, complex(float64(len(text)), 0), code
		}},
	}
}

func checkLists(t *testing.T, name string, f listsFunction, p, q []complex128, wantCode int64) {
	t.Helper()
	name = fmt.Sprintf("%s of %v and %v", name, p, q)
	lists, rest, code := f.call(p, q)
	for _, list := range lists {
		checkCoefficients(t, name, list, code, nil, wantCode)
	}
	checkWide(t, name, rest, code, 0, wantCode)
}

func TestListsMustBePolynomialsOrParts(t *testing.T) {
	others := [][]complex128{{2, -3, 1}, ones(13), {complex(huge, 0), complex(huge, 0)}}
	// 61 and 2 are in no range.
	for _, far := range []bool{false, true} {
		k, tolerance := int64(1), 0.5
		if far {
			k, tolerance = 61, 2
		}
		for name, f := range listsFunctions(k, 2, tolerance) {
			bad := badPolynomials()
			if f.ofParts {
				bad = badParts()
			}
			for _, list := range bad {
				for _, other := range others {
					checkLists(t, name, f, list, other, impl.ErrInvalid)
					if f.count == 2 {
						checkLists(t, name, f, other, list, impl.ErrInvalid)
					}
				}
				if f.count == 2 {
					checkLists(t, name, f, list, list, impl.ErrInvalid)
				}
			}
		}
	}
}

func TestNumbersToDeflateByMustBeFinite(t *testing.T) {
	for _, z := range notFinites {
		for _, p := range [][]complex128{{2, -3, 1}, ones(13), {complex(huge, 0), complex(huge, 0)}, {1}, nil} {
			q, number, code := impl.DeflateBy(p, z)
			checkCoefficients(t, fmt.Sprintf("DeflateBy(%v, %v)", p, z), q, code, nil, impl.ErrInvalid)
			checkWide(t, fmt.Sprintf("DeflateBy(%v, %v), number,", p, z), number, code, 0, impl.ErrInvalid)
		}
	}
}

// Constants and lists without numbers are parts; a nil list is the same as an empty one.
func TestPartsOfOneNumberOrNone(t *testing.T) {
	short := [][]complex128{nil, {}, {2}, {1i}}
	for name, f := range listsFunctions(1, 2, 0.5) {
		if !f.ofParts {
			continue
		}
		for _, p := range short {
			for _, q := range append(short, ones(13)) {
				_, _, code := f.call(p, q)
				_, _, other := f.call(q, p)
				if code != impl.ErrNone || other != impl.ErrNone {
					t.Errorf("%s of %v and %v: codes %d and %d", name, p, q, code, other)
				}
			}
		}
	}
}

// beyondList stands where no function may read or write.
const beyondList = -77 + 77i

// roomyList gives a list with room behind it, and all of this memory.
func roomyList(list []complex128) ([]complex128, []complex128) {
	all := append(slices.Clone(list), slices.Repeat([]complex128{beyondList}, 15)...)
	return all[:len(list)], all
}

// writeOver fills all memory of a list.
func writeOver(list []complex128) {
	list = list[:cap(list)]
	for i := range list {
		list[i] = beyondList - 1
	}
}

func TestListsOwnTheirMemory(t *testing.T) {
	lists := [][]complex128{
		nil, {2}, {2, -3, 1}, {-1, 0, 1}, {0, 1}, {1, 1, 1, 0.5}, ones(13), ones(2), {-2, 3, 1, -3, 1}, {4, -6, 2},
	}
	for name, f := range listsFunctions(0, 0, 0) {
		for _, first := range lists {
			for _, second := range lists {
				p, all := roomyList(first)
				q, others := roomyList(second)
				want, _, _ := f.call(slices.Clone(first), slices.Clone(second))
				results, _, _ := f.call(p, q)
				// Each result stays when all others, the arguments and the results of one more call are written over.
				for i := range results {
					if !slices.EqualFunc(results[i], want[i], sameWide) {
						t.Errorf("%s of %v and %v: result %d is %v, want %v", name, first, second, i, results[i], want[i])
					}
					writeOver(results[i])
					want[i] = slices.Clone(results[i])
				}
				checkRoomy(t, name, all, first)
				checkRoomy(t, name, others, second)
				writeOver(all)
				writeOver(others)
				again, _, _ := f.call(slices.Clone(first), slices.Clone(second))
				for i := range again {
					for n := range again[i] {
						again[i][n] = 5
					}
				}
				for i := range results {
					if !slices.Equal(results[i], want[i]) {
						t.Errorf("%s of %v and %v: result %d shares memory", name, first, second, i)
					}
				}
			}
		}
	}
}

func checkRoomy(t *testing.T, name string, all, list []complex128) {
	t.Helper()
	_, want := roomyList(list)
	if !slices.EqualFunc(all, want, sameWide) {
		t.Errorf("%s of %v changes it to %v", name, list, all)
	}
}

// A result that is written over, and its spare memory, are not those of the other result.
func TestQuotientsAndRemaindersShareNothing(t *testing.T) {
	r := newRandom(131)
	for range 500 {
		p, q := sparse(r, 13), sparse(r, 7)
		quotient, remainder, _ := impl.DividePolynomial(p, q)
		before := slices.Clone(remainder)
		writeOver(quotient)
		if !slices.EqualFunc(remainder, before, sameWide) {
			t.Fatalf("DividePolynomial(%v, %v): the quotient shares memory with the remainder", p, q)
		}
		quotient, remainder, _ = impl.DividePolynomial(p, q)
		before = slices.Clone(quotient)
		writeOver(remainder)
		if !slices.EqualFunc(quotient, before, sameWide) {
			t.Fatalf("DividePolynomial(%v, %v): the remainder shares memory with the quotient", p, q)
		}
	}
}

func TestOtherListsOwnTheirMemory(t *testing.T) {
	roots, all := roomyList([]complex128{1, 2})
	for range 2 {
		p, code := impl.PolynomialOfRoots(roots)
		checkCoefficients(t, "PolynomialOfRoots", p, code, []complex128{2, -3, 1}, impl.ErrNone)
		checkRoomy(t, "PolynomialOfRoots", all, []complex128{1, 2})
		writeOver(p)
		p, code = impl.ParsePolynomial("1p0,0p0;1p0,0p0")
		checkCoefficients(t, "ParsePolynomial", p, code, ones(2), impl.ErrNone)
		writeOver(p)
		p, code = impl.CommonPart([]complex128{2, 1}, []complex128{3, 1}, 0)
		checkCoefficients(t, "CommonPart", p, code, ones(1), impl.ErrNone)
		writeOver(p)
	}
	narrow := []complex64{2, -3, 1, 7}[:3]
	wide, _ := impl.WidePolynomial(narrow)
	writeOver(wide)
	if !slices.Equal(narrow[:4], []complex64{2, -3, 1, 7}) {
		t.Errorf("WidePolynomial changes its argument to %v", narrow[:4])
	}
	p, all := roomyList([]complex128{2, -3, 1})
	narrow, _ = impl.NarrowPolynomial(p)
	narrow[0] = 5
	checkRoomy(t, "NarrowPolynomial", all, []complex128{2, -3, 1})
}

// One list as both arguments gives the same as two equal ones.
func TestListsWithThemselves(t *testing.T) {
	r := newRandom(132)
	for range 300 {
		p := anyPart(r, 2, 7)
		for name, f := range listsFunctions(1, 2, 0.5) {
			lists, rest, code := f.call(p, p)
			want, wantRest, wantCode := f.call(p, slices.Clone(p))
			for i := range lists {
				checkCoefficients(t, fmt.Sprintf("%s of %v alone", name, p), lists[i], code, want[i], wantCode)
			}
			checkWide(t, fmt.Sprintf("%s of %v alone", name, p), rest, code, wantRest, wantCode)
		}
	}
}
