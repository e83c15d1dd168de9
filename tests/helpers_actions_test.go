package tests

import (
	"math/rand"
	"slices"
	"testing"

	"loop.example/g01285/impl"
)

// turned returns the polynomial to which a matrix leads f, apart from the program: each Term is
// multiplied out letter by letter.
func turned(g impl.Matrix, f impl.Poly) impl.Poly {
	p := f.Prime
	sum := table{}
	for _, s := range f.Terms {
		part := table{{}: s.Value}
		for j := range f.Vars {
			form := table{}
			for i := range f.Vars {
				if g[i][j] != 0 {
					var letter impl.Exps
					letter[i] = 1
					form[letter] = int64(g[i][j])
				}
			}
			for range s.Exps[j] {
				part = part.times(p, form)
			}
		}
		for e, v := range part {
			sum[e] = (sum[e] + v) % p
		}
	}
	return sum.poly(p, f.Vars)
}

// turnedByAll returns what all Elements make of f, in their order.
func turnedByAll(g impl.Group, f impl.Poly) []impl.Poly {
	var list []impl.Poly
	for _, x := range g.Elements {
		list = append(list, turned(x, f))
	}
	return list
}

// withoutDoubles returns the polynomials of a list, each once, where it stands first.
func withoutDoubles(list []impl.Poly) []impl.Poly {
	var found []impl.Poly
	for _, x := range list {
		if !slices.ContainsFunc(found, func(y impl.Poly) bool { return samePoly(x, y) }) {
			found = append(found, x)
		}
	}
	return found
}

// summed returns k times the sum of polynomials, modulo the prime of f and in its letters.
func summed(f impl.Poly, list []impl.Poly, k int64) impl.Poly {
	sum := table{}
	for _, x := range list {
		sum = sum.plus(f.Prime, k, tableOf(x))
	}
	return sum.poly(f.Prime, f.Vars)
}

// multiplied returns the product of polynomials, modulo the prime of f and in its letters.
func multiplied(f impl.Poly, list []impl.Poly) impl.Poly {
	whole := table{{}: 1}
	for _, x := range list {
		whole = whole.times(f.Prime, tableOf(x))
	}
	return whole.poly(f.Prime, f.Vars)
}

// symmetricByHand adds the products of k different ones of a list: those with its first polynomial
// and those without it.
func symmetricByHand(p int64, list []impl.Poly, k int) table {
	if k == 0 {
		return table{{}: 1}
	}
	if k > len(list) {
		return table{}
	}
	with := symmetricByHand(p, list[1:], k-1).times(p, tableOf(list[0]))
	return with.plus(p, 1, symmetricByHand(p, list[1:], k))
}

// topDegree returns the degree of the last Term, -1 without Terms.
func topDegree(f impl.Poly) int64 {
	top := int64(-1)
	for _, s := range f.Terms {
		top = int64(s.Exps[0]) + int64(s.Exps[1]) + int64(s.Exps[2])
	}
	return top
}

// characterByHand tries all numbers for each Element, and reports whether one always fits.
func characterByHand(g impl.Group, f impl.Poly) ([]int64, bool) {
	var character []int64
	for _, x := range turnedByAll(g, f) {
		found := int64(0)
		for k := int64(1); k < g.Prime; k++ {
			if samePoly(x, summed(f, []impl.Poly{f}, k)) {
				found = k
			}
		}
		if found == 0 {
			return nil, false
		}
		character = append(character, found)
	}
	return character, len(f.Terms) > 0
}

// leant returns the sum, over all Elements, of what they make of f divided by the power k of their
// determinants: what is not 0 is semi-invariant, with these powers as its character.
func leant(g impl.Group, f impl.Poly, k int) impl.Poly {
	sum := table{}
	for _, x := range g.Elements {
		// The power p - 2 of a number is its inverse; modulo 2 all of them are 1.
		factor := int64(1)
		for range k * int(g.Prime-2) {
			factor = factor * opened(g.Size, x).determinant(g.Prime) % g.Prime
		}
		sum = sum.plus(g.Prime, factor, tableOf(turned(x, f)))
	}
	return sum.poly(g.Prime, g.Size)
}

// dense returns the polynomial of a degree in which no coefficient is 0.
func dense(r *rand.Rand, p int64, d int64, most int64) impl.Poly {
	x := impl.Poly{Prime: p, Vars: d}
	for n := int64(0); n <= most; n++ {
		for _, e := range monomials(d, n) {
			x.Terms = append(x.Terms, impl.Term{Exps: e, Value: 1 + r.Int63n(p-1)})
		}
	}
	return x
}

// polysFor returns polynomials on which a group acts in all kinds of ways: 0, constants, letters,
// invariants, semi-invariants, and others.
func polysFor(r *rand.Rand, g impl.Group) []impl.Poly {
	p, d := g.Prime, g.Size
	some := randomPoly(r, p, d, 2)
	return []impl.Poly{
		built(p, d),
		built(p, d, term(1+r.Int63n(p-1))),
		built(p, d, term(1, 1)),
		randomPoly(r, p, d, 1),
		some,
		randomPoly(r, p, d, 3),
		leant(g, some, 0),
		leant(g, randomPoly(r, p, d, 3), 1),
		leant(g, some, 2),
	}
}

// forActions calls a check with groups of all kinds and polynomials on which they act.
func forActions(t *testing.T, check func(g impl.Group, f impl.Poly)) {
	t.Helper()
	r := rand.New(rand.NewSource(9))
	manyGroups(t, func(g impl.Group) {
		for _, f := range polysFor(r, g) {
			check(g, f)
		}
	})
}

// wantPolys checks a list of polynomials and a code; without ErrNone there are none.
func wantPolys(t *testing.T, what string, list []impl.Poly, code int64, want []impl.Poly, wantCode int64) {
	t.Helper()
	if code != wantCode || !slices.EqualFunc(list, want, samePoly) {
		t.Errorf("%s = %v, %d, want %v, %d", what, list, code, want, wantCode)
	}
}

// wantNumbers checks a list of numbers and a code; without ErrNone there are none.
func wantNumbers(t *testing.T, what string, list []int64, code int64, want []int64, wantCode int64) {
	t.Helper()
	if code != wantCode || !slices.Equal(list, want) {
		t.Errorf("%s = %v, %d, want %v, %d", what, list, code, want, wantCode)
	}
}

// powersOf returns the group of the powers of a number modulo p, of the size 1.
func powersOf(p int64, number byte) impl.Group {
	return groupWith(p, 1, closedList(p, 1, []impl.Matrix{{{number}}}, impl.MaxOrder)...)
}
