package tests

import (
	"testing"

	"loop.example/g01285/impl"
)

// symmetricResults are calls of the functions that return polynomials and lists, also those that could return
// an argument as it is.
func symmetricResults(t *testing.T) map[string]func(a *spaceArguments) spaceParts {
	poly, lists := first[impl.Poly](t), first[[][]int64](t)
	ofPoly := func(f impl.Poly) spaceParts { return ofPolys([]impl.Poly{f}) }
	return map[string]func(a *spaceArguments) spaceParts{
		"PartitionsOf":             func(a *spaceArguments) spaceParts { return ofLists(lists(impl.PartitionsOf(5, 3))) },
		"PartitionsOf 0":           func(a *spaceArguments) spaceParts { return ofLists(lists(impl.PartitionsOf(0, 2))) },
		"PartitionsOf, one letter": func(a *spaceArguments) spaceParts { return ofLists(lists(impl.PartitionsOf(12, 1))) },
		"MonomialSum":              func(a *spaceArguments) spaceParts { return ofPoly(poly(impl.MonomialSum(5, a.exps))) },
		"MonomialSum, not sorted":  func(a *spaceArguments) spaceParts { return ofPoly(poly(impl.MonomialSum(5, a.row))) },
		"ElementaryPoly":           func(a *spaceArguments) spaceParts { return ofPoly(poly(impl.ElementaryPoly(5, 3, 2))) },
		"ElementaryPoly of 0":      func(a *spaceArguments) spaceParts { return ofPoly(poly(impl.ElementaryPoly(5, 3, 0))) },
		"CompletePoly":             func(a *spaceArguments) spaceParts { return ofPoly(poly(impl.CompletePoly(5, 3, 4))) },
		"PowerSumPoly":             func(a *spaceArguments) spaceParts { return ofPoly(poly(impl.PowerSumPoly(5, 3, 4))) },
		"TellSymmetric":            func(a *spaceArguments) spaceParts { return ofPoly(poly(impl.TellSymmetric(a.f))) },
		"TellSymmetric, letter":    func(a *spaceArguments) spaceParts { return ofPoly(poly(impl.TellSymmetric(a.letter))) },
		"SymmetricOf":              func(a *spaceArguments) spaceParts { return ofPoly(poly(impl.SymmetricOf(a.f))) },
		"SymmetricOf, letter":      func(a *spaceArguments) spaceParts { return ofPoly(poly(impl.SymmetricOf(a.letter))) },
		"VandermondePoly":          func(a *spaceArguments) spaceParts { return ofPoly(poly(impl.VandermondePoly(5, 3))) },
		"VandermondePoly, letter":  func(a *spaceArguments) spaceParts { return ofPoly(poly(impl.VandermondePoly(5, 1))) },
		"AlternatingQuotient":      func(a *spaceArguments) spaceParts { return ofPoly(poly(impl.AlternatingQuotient(a.odd))) },
		"AlternatingQuotient, letter": func(a *spaceArguments) spaceParts {
			return ofPoly(poly(impl.AlternatingQuotient(a.letter)))
		},
		"SchurPoly":         func(a *spaceArguments) spaceParts { return ofPoly(poly(impl.SchurPoly(5, a.exps))) },
		"SchurPoly, letter": func(a *spaceArguments) spaceParts { return ofPoly(poly(impl.SchurPoly(5, a.exps[:1]))) },
	}
}

func TestSymmetricPolysShareNoMemory(t *testing.T) {
	wantOwnMemory(t, symmetricResults(t))
}

func TestPartsOfSymmetricPolysShareNoMemory(t *testing.T) {
	wantOwnParts(t, symmetricResults(t))
}

func TestOtherSymmetricResultsLeaveArguments(t *testing.T) {
	wantArgumentsLeft(t, map[string]func(a *spaceArguments){
		"IsSymmetric":           func(a *spaceArguments) { impl.IsSymmetric(a.f) },
		"IsSymmetric, not":      func(a *spaceArguments) { impl.IsSymmetric(a.odd) },
		"IsSymmetric, letter":   func(a *spaceArguments) { impl.IsSymmetric(a.letter) },
		"IsAlternating":         func(a *spaceArguments) { impl.IsAlternating(a.odd) },
		"IsAlternating, not":    func(a *spaceArguments) { impl.IsAlternating(a.f) },
		"IsAlternating, letter": func(a *spaceArguments) { impl.IsAlternating(a.letter) },
		"errors": func(a *spaceArguments) {
			impl.MonomialSum(4, a.exps)
			impl.MonomialSum(5, a.exps[:0])
			a.exps[0] = 13
			impl.MonomialSum(5, a.exps)
			impl.SchurPoly(5, a.exps)
			a.exps[0] = 1
			impl.SchurPoly(5, a.row)
			impl.SchurPoly(4, a.exps)
			impl.TellSymmetric(a.odd)
			impl.AlternatingQuotient(a.f)
			impl.SymmetricOf(built(5, 2, term(1, 0, 7)))
			a.f.Prime = 4
			impl.IsSymmetric(a.f)
			impl.IsAlternating(a.f)
			impl.TellSymmetric(a.f)
			impl.SymmetricOf(a.f)
			impl.AlternatingQuotient(a.f)
			a.f.Prime = 5
		},
	})
}
