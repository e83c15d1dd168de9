package tests

import (
	"fmt"
	"math/rand"
	"slices"
	"testing"

	"loop.example/g01285/impl"
)

// exponentsByHand lists the exponents of the products of a degree of polynomials with some degrees, in order.
func exponentsByHand(degrees []int64, n int64) [][]int64 {
	if len(degrees) == 0 {
		if n == 0 {
			return [][]int64{{}}
		}
		return nil
	}
	var lists [][]int64
	for exponent := n / degrees[0]; exponent >= 0; exponent-- {
		for _, rest := range exponentsByHand(degrees[1:], n-exponent*degrees[0]) {
			lists = append(lists, append([]int64{exponent}, rest...))
		}
	}
	return lists
}

// productByHand multiplies the polynomials of a list as often as exponents tell.
func productByHand(p int64, list []impl.Poly, exps []int64) table {
	whole := table{{}: 1}
	for i, f := range list {
		for range exps[i] {
			whole = whole.times(p, tableOf(f))
		}
	}
	return whole
}

// timesProducts returns the sum of numbers times the products of a degree, in order.
func timesProducts(list []impl.Poly, n int64, numbers []int64) impl.Poly {
	sum := table{}
	for i, exps := range exponentsByHand(degreesOf(list), n) {
		if numbers[i] != 0 {
			sum = sum.plus(list[0].Prime, numbers[i], productByHand(list[0].Prime, list, exps))
		}
	}
	return sum.poly(list[0].Prime, list[0].Vars)
}

// solvedByHand returns the reduced list of the rows of count numbers modulo p the products of which with each
// condition, number by number, add up to 0.
func solvedByHand(p int64, count int, conditions [][]int64) [][]int64 {
	bound := map[int]bool{}
	conditions = reducedByHand(p, conditions)
	for _, condition := range conditions {
		bound[leadOf(condition)] = true
	}
	var rows [][]int64
	for free := range count {
		if bound[free] {
			continue
		}
		row := zeros(count)
		row[free] = 1
		for _, condition := range conditions {
			row[leadOf(condition)] = (p - condition[free]) % p
		}
		rows = append(rows, row)
	}
	return reducedByHand(p, rows)
}

// relationsByHand finds the relations of a degree: at each monomial the numbers times the products add up
// to 0.
func relationsByHand(list []impl.Poly, n int64) [][]int64 {
	p, d := list[0].Prime, list[0].Vars
	lists := exponentsByHand(degreesOf(list), n)
	conditions := make([][]int64, len(monomials(d, n)))
	for _, exps := range lists {
		for i, number := range rowByHand(productByHand(p, list, exps).poly(p, d), n) {
			conditions[i] = append(conditions[i], number)
		}
	}
	return solvedByHand(p, len(lists), conditions)
}

// fromLesser returns what relations of lesser degrees than n make in the degree n: each of them is multiplied
// by each product of the degree that is missing.
func fromLesser(list []impl.Poly, n int64) [][]int64 {
	degrees := degreesOf(list)
	there := exponentsByHand(degrees, n)
	places := map[string]int{}
	for i, exps := range there {
		places[fmt.Sprint(exps)] = i
	}
	var rows [][]int64
	for m := range n {
		here := exponentsByHand(degrees, m)
		for _, relation := range relationsByHand(list, m) {
			for _, by := range exponentsByHand(degrees, n-m) {
				row := zeros(len(there))
				for i, number := range relation {
					more := slices.Clone(by)
					for j, exponent := range here[i] {
						more[j] += exponent
					}
					row[places[fmt.Sprint(more)]] = number
				}
				rows = append(rows, row)
			}
		}
	}
	return rows
}

// newByHand returns the new number of relations of a degree as the document tells it.
func newByHand(list []impl.Poly, n int64) int64 {
	return int64(len(relationsByHand(list, n)) - rankByHand(list[0].Prime, fromLesser(list, n)))
}

// monomialCurve returns the powers of one letter with some exponents.
func monomialCurve(p int64, exps ...byte) []impl.Poly {
	var list []impl.Poly
	for _, exponent := range exps {
		list = append(list, built(p, 1, term(1, exponent)))
	}
	return list
}

// monomialList returns all monomials of a degree, as polynomials.
func monomialList(p int64, d int64, n int64) []impl.Poly {
	var list []impl.Poly
	for _, e := range monomials(d, n) {
		list = append(list, built(p, d, impl.Term{Exps: e, Value: 1}))
	}
	return list
}

// valueByHand adds up the Terms of a polynomial at a point.
func valueByHand(f impl.Poly, point []int64) int64 {
	sum := int64(0)
	for _, s := range f.Terms {
		part := s.Value
		for i, number := range point {
			for range s.Exps[i] {
				part = part * number % f.Prime
			}
		}
		sum += part
	}
	return sum % f.Prime
}

// valuesByHand returns the values of polynomials at a point.
func valuesByHand(list []impl.Poly, point []int64) []int64 {
	var values []int64
	for _, f := range list {
		values = append(values, valueByHand(f, point))
	}
	return values
}

// orbitNumbers tells each point by its text, and gives it the number of its orbit: all points to which the
// Elements lead the first one of an orbit have the same. It also returns how many orbits there are.
func orbitNumbers(g impl.Group) (map[string]int64, int64) {
	numbers, count := map[string]int64{}, int64(0)
	for _, point := range points(g.Prime, g.Size) {
		if _, ok := numbers[fmt.Sprint(point)]; ok {
			continue
		}
		for _, x := range g.Elements {
			numbers[fmt.Sprint(led(g.Prime, g.Size, x, point))] = count
		}
		count++
	}
	return numbers, count
}

// fixedByHand counts the points that an Element leaves, for all Elements, divided by the number of these: that
// is the number of orbits.
func fixedByHand(g impl.Group) int64 {
	fixed := int64(0)
	for _, point := range points(g.Prime, g.Size) {
		for _, x := range g.Elements {
			if slices.Equal(led(g.Prime, g.Size, x, point), point) {
				fixed++
			}
		}
	}
	return fixed / int64(len(g.Elements))
}

// seenByHand returns how many lists of values a list has at all points, and whether points of different orbits
// always have different ones.
func seenByHand(g impl.Group, list []impl.Poly) (int64, bool) {
	numbers, _ := orbitNumbers(g)
	orbits := map[string]map[int64]bool{}
	separated := true
	for _, point := range points(g.Prime, g.Size) {
		values := fmt.Sprint(valuesByHand(list, point))
		if orbits[values] == nil {
			orbits[values] = map[int64]bool{}
		}
		orbits[values][numbers[fmt.Sprint(point)]] = true
		separated = separated && len(orbits[values]) == 1
	}
	return int64(len(orbits)), separated
}

// pointCount returns how many points a group leads.
func pointCount(g impl.Group) int64 {
	count := int64(1)
	for range g.Size {
		count *= g.Prime
	}
	return count
}

// transfersByHand adds what all Elements make of each monomial of a degree, and returns the dimension of the
// space of these sums.
func transfersByHand(g impl.Group, n int64) int64 {
	var rows [][]int64
	for _, f := range monomialList(g.Prime, g.Size, n) {
		rows = append(rows, rowByHand(summed(f, turnedByAll(g, f), 1), n))
	}
	return int64(rankByHand(g.Prime, rows))
}

// noValuedLists are no lists of polynomials that are alike, or too long ones, each for one reason; the Prime of
// their first polynomials is 5, and their Vars are 2.
func noValuedLists() map[string][]impl.Poly {
	x, y := built(5, 2, term(1, 1)), built(5, 2, term(1, 0, 1))
	return map[string][]impl.Poly{
		"nine polynomials":            {x, y, x, y, x, y, x, y, x},
		"nine times 0":                slices.Repeat([]impl.Poly{built(5, 2)}, impl.MaxList+1),
		"a thousand":                  slices.Repeat([]impl.Poly{y}, 1000),
		"another prime":               {x, built(7, 2, term(1, 1))},
		"another prime at the end":    {x, y, x, y, x, y, x, built(3, 2, term(1, 1))},
		"three letters":               {x, built(5, 3, term(1, 1))},
		"one letter":                  {x, y, built(5, 1, term(1, 1))},
		"0 of another prime":          {x, built(7, 2)},
		"0 in three letters":          {x, built(5, 3)},
		"1 in one letter":             {x, y, built(5, 1, term(1))},
		"another prime, nine of them": {x, y, x, y, x, y, x, y, built(7, 2, term(1))},
	}
}

// anyPolys returns random polynomials that are alike, of any degrees, homogeneous or not; some are constants, 0,
// or equal to others.
func anyPolys(r *rand.Rand, p int64, d int64, count int, most int64) []impl.Poly {
	var list []impl.Poly
	for range count {
		f := randomPoly(r, p, d, r.Int63n(most+1))
		switch {
		case r.Intn(6) == 0:
			f = randomPoly(r, p, d, 0)
		case len(list) > 0 && r.Intn(6) == 0:
			f = list[r.Intn(len(list))]
		}
		list = append(list, f)
	}
	return list
}

// relations returns the relations of a degree.
func relations(t *testing.T, list []impl.Poly, n int64) [][]int64 {
	t.Helper()
	rows, code := impl.RelationsOf(list, n)
	if code != impl.ErrNone {
		t.Fatalf("%s: code %d", asked("RelationsOf", list, n), code)
	}
	return rows
}

// isRelation reports whether numbers are a relation.
func isRelation(t *testing.T, list []impl.Poly, n int64, numbers []int64) bool {
	t.Helper()
	yes, code := impl.IsRelation(list, n, numbers)
	if code != impl.ErrNone {
		t.Fatalf("IsRelation(%v, %d, %v): code %d", list, n, numbers, code)
	}
	return yes
}

// newRelations returns the new number of relations of a degree.
func newRelations(t *testing.T, list []impl.Poly, n int64) int64 {
	t.Helper()
	number, code := impl.NewRelations(list, n)
	if code != impl.ErrNone {
		t.Fatalf("%s: code %d", asked("NewRelations", list, n), code)
	}
	return number
}

// sameOrbits reports whether two points are in one orbit.
func sameOrbits(t *testing.T, g impl.Group, x []int64, y []int64) bool {
	t.Helper()
	yes, code := impl.AreSameOrbits(g, x, y)
	if code != impl.ErrNone {
		t.Fatalf("AreSameOrbits(%v, %v, %v): code %d", g, x, y, code)
	}
	return yes
}

// countOrbits returns the number of orbits of a group with few points.
func countOrbits(t *testing.T, g impl.Group) int64 {
	t.Helper()
	number, code := impl.CountOrbits(g)
	if code != impl.ErrNone {
		t.Fatalf("CountOrbits(%v): code %d", g, code)
	}
	return number
}

// separates reports whether a list separates the orbits of a group with few points.
func separates(t *testing.T, g impl.Group, list []impl.Poly) bool {
	t.Helper()
	yes, code := impl.SeparatesOrbits(g, list)
	if code != impl.ErrNone {
		t.Fatalf("SeparatesOrbits(%v, %v): code %d", g, list, code)
	}
	return yes
}

// commonValues returns how many lists of values a list has at all points of a group with few points.
func commonValues(t *testing.T, g impl.Group, list []impl.Poly) int64 {
	t.Helper()
	number, code := impl.CommonValues(g, list)
	if code != impl.ErrNone {
		t.Fatalf("CommonValues(%v, %v): code %d", g, list, code)
	}
	return number
}

// transferNumber returns a transfer number.
func transferNumber(t *testing.T, g impl.Group, n int64) int64 {
	t.Helper()
	number, code := impl.TransferNumber(g, n)
	if code != impl.ErrNone {
		t.Fatalf("TransferNumber(%v, %d): code %d", g, n, code)
	}
	return number
}
