package tests

import (
	"math/rand"
	"testing"

	"loop.example/g01285/impl"
)

// monomialMultiples returns the rows of the products of polynomials in d letters with all monomials, of
// the degree n.
func monomialMultiples(p int64, d int64, list []impl.Poly, n int64) [][]int64 {
	var rows [][]int64
	for _, f := range list {
		for _, e := range monomials(d, n-topDegree(f)) {
			numbers := tableOf(f).times(p, table{e: 1})
			var row []int64
			for _, place := range monomials(d, n) {
				row = append(row, numbers[place])
			}
			rows = append(rows, row)
		}
	}
	return rows
}

// restByHand returns the rest number of n for polynomials in d letters.
func restByHand(p int64, d int64, list []impl.Poly, n int64) int64 {
	return int64(len(monomials(d, n)) - rankByHand(p, monomialMultiples(p, d, list, n)))
}

// askedByHand returns the degree that is asked of as many polynomials as letters.
func askedByHand(list []impl.Poly) int64 {
	asked := int64(1)
	for _, f := range list {
		asked += topDegree(f) - 1
	}
	return asked
}

// degreeProduct returns the product of the degrees of polynomials.
func degreeProduct(list []impl.Poly) int64 {
	whole := int64(1)
	for _, f := range list {
		whole *= topDegree(f)
	}
	return whole
}

// restSeries returns, up to k, the numbers of the product of 1 + t + .. + t^(d - 1) for all degrees d: the
// rest numbers of parameters with these degrees.
func restSeries(degrees []int64, k int64) []int64 {
	series := begun(int(k)+1, 1)
	for _, d := range degrees {
		next := zeros(len(series))
		for i, number := range series {
			for j := i; j < len(next) && j < i+int(d); j++ {
				next[j] += number
			}
		}
		series = next
	}
	return series
}

// areFreeByHand multiplies out all products of each degree up to n, and counts what is independent.
func areFreeByHand(p int64, d int64, list []impl.Poly, n int64) bool {
	for k := int64(1); k <= n; k++ {
		var rows [][]int64
		for _, numbers := range productsByHand(p, list, k) {
			rows = append(rows, rowByHand(numbers.poly(p, d), k))
		}
		if rankByHand(p, rows) < len(rows) {
			return false
		}
	}
	return true
}

// secondaryDegreesByHand returns the numbers e(0) to e(n), one after the other as the document tells them.
func secondaryDegreesByHand(t *testing.T, g impl.Group, list []impl.Poly, n int64) []int64 {
	t.Helper()
	var numbers []int64
	for k := range n + 1 {
		number := int64(len(basis(t, g, k)))
		for i, before := range numbers {
			number -= before * waysByHand(degreesOf(list), k-int64(i))
		}
		numbers = append(numbers, number)
	}
	return numbers
}

// secondariesByHand finds the secondary invariants of a degree as the document tells it.
func secondariesByHand(t *testing.T, g impl.Group, list []impl.Poly, n int64) []impl.Poly {
	t.Helper()
	p, d := g.Prime, g.Size
	var multiples [][]int64
	for _, f := range list {
		if topDegree(f) > n {
			continue
		}
		for _, h := range basis(t, g, n-topDegree(f)) {
			multiples = append(multiples, rowByHand(multiplied(f, []impl.Poly{f, h}), n))
		}
	}
	multiples = reducedByHand(p, multiples)
	var rests [][]int64
	for _, h := range rowsByHand(basis(t, g, n), n) {
		rests = append(rests, without(p, h, multiples))
	}
	return polysByHand(p, d, n, reducedByHand(p, rests))
}

// restNumbers returns the rest numbers up to n.
func restNumbers(t *testing.T, list []impl.Poly, n int64) []int64 {
	t.Helper()
	numbers, code := impl.RestNumbers(list, n)
	if code != impl.ErrNone {
		t.Fatalf("%s: code %d", asked("RestNumbers", list, n), code)
	}
	return numbers
}

// areParameters reports whether as many polynomials as letters, of degrees that are not too great, are
// parameters.
func areParameters(t *testing.T, list []impl.Poly) bool {
	t.Helper()
	yes, code := impl.AreParameters(list)
	if code != impl.ErrNone {
		t.Fatalf("AreParameters(%v): code %d", list, code)
	}
	return yes
}

// isMultiple reports whether f is in the space of the multiples of a list.
func isMultiple(t *testing.T, list []impl.Poly, f impl.Poly) bool {
	t.Helper()
	yes, code := impl.IsMultiple(list, f)
	if code != impl.ErrNone {
		t.Fatalf("IsMultiple(%v, %v): code %d", list, f, code)
	}
	return yes
}

// secondaries returns the secondary invariants of a degree.
func secondaries(t *testing.T, g impl.Group, list []impl.Poly, n int64) []impl.Poly {
	t.Helper()
	polys, code := impl.SecondaryInvariants(g, list, n)
	if code != impl.ErrNone {
		t.Fatalf("SecondaryInvariants(%v, %v, %d): code %d", g, list, n, code)
	}
	return polys
}

// mixed returns a sum of random multiples of polynomials of a degree, which are at least one.
func mixed(r *rand.Rand, list []impl.Poly) impl.Poly {
	numbers := table{}
	for _, f := range list {
		numbers = numbers.plus(f.Prime, r.Int63n(f.Prime), tableOf(f))
	}
	return numbers.poly(list[0].Prime, list[0].Vars)
}

// randomInvariants returns as many invariants other than 0 as there are letters, of bases with at least one
// polynomial in them.
func randomInvariants(r *rand.Rand, bases [][]impl.Poly, count int64) []impl.Poly {
	var list []impl.Poly
	for int64(len(list)) < count {
		if f := mixed(r, bases[r.Intn(len(bases))]); len(f.Terms) > 0 {
			list = append(list, f)
		}
	}
	return list
}

// forParameters calls a check with groups that are not modular, and random invariants of degrees of at
// most MaxSpace that are parameters.
func forParameters(t *testing.T, check func(g impl.Group, list []impl.Poly)) {
	t.Helper()
	r := rand.New(rand.NewSource(71))
	try := func(g impl.Group) {
		var bases [][]impl.Poly
		for n := int64(1); n <= impl.MaxSpace && int64(len(g.Elements))%g.Prime != 0; n++ {
			if list := basis(t, g, n); len(list) > 0 {
				bases = append(bases, list)
			}
		}
		for range 4 {
			if len(bases) == 0 {
				return
			}
			list := randomInvariants(r, bases, g.Size)
			if askedByHand(list) <= impl.MaxBound && areParameters(t, list) {
				check(g, list)
			}
		}
	}
	manyGroups(t, try)
	for _, g := range []impl.Group{
		groupWith(5, 3, unitOf(3)), multiplesOf(7, 2, 2), multiplesOf(5, 3, 4), diagonalGroup(5, 2, 3), diagonalGroup(7, 2, 4),
		diagonalGroup(5, 2, 2, 3), diagonalGroup(13, 3, 9), signedTurns(5), signedTurns(7), powersOf(13, 3), twoDiagonals(7, 2, 6),
	} {
		for range 5 {
			try(g)
		}
	}
}

// parameterCase is a group that is not modular with invariants that are parameters, their secondary
// degrees, and the texts of all secondary invariants.
type parameterCase struct {
	g           impl.Group
	texts       string
	degrees     []int64
	secondaries string
}

func parameterCases(t *testing.T) []parameterCase {
	return []parameterCase{
		{named(t, "point", 2), "1x", []int64{1}, "1"},
		{named(t, "point", 2), "1x7", row(7, 1), "1 1x 1x2 1x3 1x4 1x5 1x6"},
		{named(t, "sign", 3), "2x2", []int64{1, 0}, "1"},
		{named(t, "sign", 5), "1x6", []int64{1, 0, 1, 0, 1, 0}, "1 1x2 1x4"},
		{named(t, "sign", 2), "1x2", []int64{1, 1}, "1 1x"},
		{powersOf(7, 3), "1x6", begun(6, 1), "1"},
		{named(t, "minus", 5), "1x2 1y2", []int64{1, 0, 1}, "1 1xy"},
		{named(t, "minus", 3), "1xy 1x2+1y2", []int64{1, 0, 1}, "1 1y2"},
		{named(t, "minus", 3), "1x2 1y4", []int64{1, 0, 2, 0, 1}, "1 1xy 1y2 1xy3"},
		{named(t, "swap", 5), "1x+1y 1xy", []int64{1, 0}, "1"},
		{named(t, "swap", 5), "1xy 1x+1y", []int64{1, 0}, "1"},
		{named(t, "swap", 5), "1x2+1y2 1xy", []int64{1, 1, 0}, "1 1x+1y"},
		{named(t, "swap", 5), "1x2+2xy+1y2 1xy", []int64{1, 1, 0}, "1 1x+1y"},
		{named(t, "signs", 5), "1x2 1y4", []int64{1, 0, 1, 0, 0}, "1 1y2"},
		{named(t, "square", 3), "1x2+1y2 1x2y2", []int64{1, 0, 0, 0, 0}, "1"},
		{named(t, "square", 3), "1x4+1y4 1x2y2", []int64{1, 0, 1, 0, 0, 0, 0}, "1 1x2+1y2"},
		{named(t, "triangle", 5), "1x2+1xy+1y2 1x2y+1xy2", []int64{1, 0, 0, 0}, "1"},
		{named(t, "turn", 7), "1x+1y+1z 1xy+1xz+1yz 1xyz", []int64{1, 0, 0, 1}, "1 1x2z+1xy2+1yz2"},
		{named(t, "turn", 2), "1x+1y+1z 1xy+1xz+1yz 1xyz", []int64{1, 0, 0, 1}, "1 1x2z+1xy2+1yz2"},
		{named(t, "symmetric", 7), "1x+1y+1z 1xy+1xz+1yz 1xyz", []int64{1, 0, 0, 0}, "1"},
		{diagonalGroup(5, 2, 3), "1x4 1y4", []int64{1, 0, 1, 0, 1, 0, 1}, "1 1xy 1x2y2 1x3y3"},
		{diagonalGroup(5, 2, 3), "1xy 1x4+1y4", []int64{1, 0, 0, 0, 1}, "1 1y4"},
		{multiplesOf(7, 2, 2), "1x3 1y3", []int64{1, 0, 0, 2, 0}, "1 1x2y 1xy2"},
		{groupWith(5, 1, unitOf(1)), "3x2", []int64{1, 1}, "1 1x"},
		{groupWith(5, 2, unitOf(2)), "1x 1y", []int64{1}, "1"},
		{groupWith(5, 2, unitOf(2)), "1x+1y 1xy", []int64{1, 1}, "1 1y"},
		{groupWith(2, 2, unitOf(2)), "1x2 1y3", []int64{1, 2, 2, 1}, "1 1x 1y 1xy 1y2 1xy2"},
		{groupWith(5, 3, unitOf(3)), "1z 1y 1x", []int64{1}, "1"},
		{groupWith(3, 3, unitOf(3)), "1x2 1y2 1z2", []int64{1, 3, 3, 1}, "1 1x 1y 1z 1xy 1xz 1yz 1xyz"},
		{
			groupWith(13, 3, unitOf(3)), "1x3 1y3 1z3", []int64{1, 3, 6, 7, 6, 3, 1},
			"1 1x 1y 1z 1x2 1xy 1xz 1y2 1yz 1z2 1x2y 1x2z 1xy2 1xyz 1xz2 1y2z 1yz2" +
				" 1x2y2 1x2yz 1x2z2 1xy2z 1xyz2 1y2z2 1x2y2z 1x2yz2 1xy2z2 1x2y2z2",
		},
	}
}
