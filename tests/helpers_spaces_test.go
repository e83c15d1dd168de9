package tests

import (
	"cmp"
	"fmt"
	"math/rand"
	"slices"
	"strings"
	"testing"

	"loop.example/g01285/impl"
)

// textsOf returns the texts of polynomials with blanks between them.
func textsOf(t *testing.T, list []impl.Poly) string {
	t.Helper()
	var texts []string
	for _, f := range list {
		text, code := impl.PolyText(f)
		if code != impl.ErrNone {
			t.Fatalf("PolyText(%v): code %d", f, code)
		}
		texts = append(texts, text)
	}
	return strings.Join(texts, " ")
}

// degreesOf returns the degrees of polynomials.
func degreesOf(list []impl.Poly) []int64 {
	var degrees []int64
	for _, f := range list {
		degrees = append(degrees, topDegree(f))
	}
	return degrees
}

// rowByHand returns the numbers of the monomials of a degree of f.
func rowByHand(f impl.Poly, n int64) []int64 {
	numbers := tableOf(f)
	var row []int64
	for _, e := range monomials(f.Vars, n) {
		row = append(row, numbers[e])
	}
	return row
}

// rowsByHand returns the rows of polynomials.
func rowsByHand(list []impl.Poly, n int64) [][]int64 {
	var rows [][]int64
	for _, f := range list {
		rows = append(rows, rowByHand(f, n))
	}
	return rows
}

// polyByHand returns the homogeneous polynomial with a row.
func polyByHand(p int64, d int64, n int64, row []int64) impl.Poly {
	numbers := table{}
	for i, e := range monomials(d, n) {
		numbers[e] = row[i]
	}
	return numbers.poly(p, d)
}

// polysByHand returns the polynomials with rows.
func polysByHand(p int64, d int64, n int64, rows [][]int64) []impl.Poly {
	var list []impl.Poly
	for _, row := range rows {
		list = append(list, polyByHand(p, d, n, row))
	}
	return list
}

// leadOf returns the place of the first number of a row other than 0, -1 if there is none.
func leadOf(row []int64) int {
	return slices.IndexFunc(row, func(a int64) bool { return a != 0 })
}

// without returns a row, less multiples of rows that make it 0 where these begin.
func without(p int64, row []int64, rows [][]int64) []int64 {
	rest := slices.Clone(row)
	for _, other := range rows {
		k := rest[leadOf(other)]
		for i := range rest {
			rest[i] = (rest[i] + (p-k)*other[i]) % p
		}
	}
	return rest
}

// reducedByHand puts rows to a reduced list, one after the other.
func reducedByHand(p int64, rows [][]int64) [][]int64 {
	var list [][]int64
	for _, row := range rows {
		rest := without(p, row, list)
		lead := leadOf(rest)
		if lead < 0 {
			continue
		}
		scaled := slices.Clone(rest)
		for k := int64(1); scaled[lead] != 1; k++ {
			for i, a := range rest {
				scaled[i] = a * k % p
			}
		}
		for i, other := range list {
			list[i] = without(p, other, [][]int64{scaled})
		}
		list = append(list, scaled)
	}
	slices.SortFunc(list, func(a, b []int64) int { return cmp.Compare(leadOf(a), leadOf(b)) })
	return list
}

// basisByHand finds what all Elements leave: it leads all monomials by all of them, and solves what has
// to be 0 then.
func basisByHand(g impl.Group, n int64) []impl.Poly {
	list := monomials(g.Size, n)
	var conditions [][]int64
	for _, x := range g.Elements {
		rows := make([][]int64, len(list))
		for _, e := range list {
			there := tableOf(turned(x, built(g.Prime, g.Size, impl.Term{Exps: e, Value: 1})))
			there[e] = (there[e] + g.Prime - 1) % g.Prime
			for j, f := range list {
				rows[j] = append(rows[j], there[f])
			}
		}
		conditions = reducedByHand(g.Prime, append(conditions, rows...))
	}
	bound := map[int]bool{}
	for _, row := range conditions {
		bound[leadOf(row)] = true
	}
	var rows [][]int64
	for free := range list {
		if bound[free] {
			continue
		}
		row := zeros(len(list))
		row[free] = 1
		for _, condition := range conditions {
			row[leadOf(condition)] = (g.Prime - condition[free]) % g.Prime
		}
		rows = append(rows, row)
	}
	return polysByHand(g.Prime, g.Size, n, reducedByHand(g.Prime, rows))
}

// productsByHand returns all products of a degree of a list: it tries all powers of the first polynomial.
func productsByHand(p int64, list []impl.Poly, n int64) []table {
	if len(list) == 0 {
		if n == 0 {
			return []table{{{}: 1}}
		}
		return nil
	}
	var products []table
	power := table{{}: 1}
	for ; n >= 0; n -= topDegree(list[0]) {
		for _, rest := range productsByHand(p, list[1:], n) {
			products = append(products, rest.times(p, power))
		}
		power = power.times(p, tableOf(list[0]))
	}
	return products
}

// generatedByHand returns the reduced list of what a list generates, in d letters.
func generatedByHand(p int64, d int64, list []impl.Poly, n int64) []impl.Poly {
	var rows [][]int64
	for _, numbers := range productsByHand(p, list, n) {
		rows = append(rows, rowByHand(numbers.poly(p, d), n))
	}
	return polysByHand(p, d, n, reducedByHand(p, rows))
}

// generatorsByHand finds the generators of a group up to n, step by step as the document tells it.
func generatorsByHand(g impl.Group, n int64) ([]impl.Poly, int64) {
	p, d := g.Prime, g.Size
	var list []impl.Poly
	for k := int64(1); k <= n; k++ {
		generated := rowsByHand(generatedByHand(p, d, list, k), k)
		var rests [][]int64
		for _, row := range rowsByHand(basisByHand(g, k), k) {
			rests = append(rests, without(p, row, generated))
		}
		list = append(list, polysByHand(p, d, k, reducedByHand(p, rests))...)
	}
	if len(list) > impl.MaxList {
		return nil, impl.ErrLimit
	}
	return list, impl.ErrNone
}

// neededByHand counts the generators of each degree up to n.
func neededByHand(list []impl.Poly, n int64) []int64 {
	numbers := zeros(int(n))
	for _, f := range list {
		numbers[topDegree(f)-1]++
	}
	return numbers
}

// randomForm returns a homogeneous polynomial of a degree other than 0, with many or with few Terms.
func randomForm(r *rand.Rand, p int64, d int64, n int64) impl.Poly {
	list := monomials(d, n)
	row := zeros(len(list))
	for range 1 + r.Intn(2*len(list)) {
		row[r.Intn(len(list))] = r.Int63n(p)
	}
	row[r.Intn(len(list))] = 1 + r.Int63n(p-1)
	return polyByHand(p, d, n, row)
}

// randomForms returns a list of forms of degrees of at most a number; some of them repeat others, or
// are sums of products of others.
func randomForms(r *rand.Rand, p int64, d int64, count int, most int64) []impl.Poly {
	var list []impl.Poly
	for range count {
		f := randomForm(r, p, d, 1+r.Int63n(most))
		if len(list) > 0 && r.Intn(3) == 0 {
			f = list[r.Intn(len(list))]
			if square := multiplied(f, []impl.Poly{f, f}); r.Intn(2) == 0 && topDegree(square) <= most {
				f = square
			}
		}
		list = append(list, f)
	}
	return list
}

// noLists are no lists of homogeneous polynomials, each for one reason, but for the empty one; the
// Prime of their first polynomials is 5, and their Vars are 2.
func noLists() map[string][]impl.Poly {
	x, y := built(5, 2, term(1, 1)), built(5, 2, term(1, 0, 1))
	lists := map[string][]impl.Poly{
		"nine polynomials":          {x, y, x, y, x, y, x, y, x},
		"nine times the same":       slices.Repeat([]impl.Poly{x}, impl.MaxList+1),
		"a thousand":                slices.Repeat([]impl.Poly{y}, 1000),
		"0":                         {built(5, 2)},
		"0 behind others":           {x, y, built(5, 2)},
		"0 before another":          {built(5, 2), x},
		"1":                         {built(5, 2, term(1))},
		"a constant behind others":  {x, y, built(5, 2, term(3))},
		"a constant and a letter":   {built(5, 2, term(3), term(1, 1))},
		"two degrees":               {built(5, 2, term(1, 1), term(2, 0, 2))},
		"two degrees behind others": {x, y, built(5, 2, term(1, 11), term(1, 12))},
		"another prime":             {x, built(7, 2, term(1, 1))},
		"another prime at the end":  {x, y, x, built(3, 2, term(1, 1))},
		"three letters":             {x, built(5, 3, term(1, 1))},
		"one letter":                {x, y, built(5, 1, term(1, 1))},
		"0 of another prime":        {x, built(7, 2)},
	}
	return lists
}

// noPolyLists are lists with something that is no polynomial at each place, also where they are no
// lists for other reasons.
func noPolyLists() map[string][]impl.Poly {
	x := built(5, 2, term(1, 1))
	lists := map[string][]impl.Poly{}
	for why, bad := range badPolys() {
		lists[why] = []impl.Poly{bad}
		lists[why+" behind another"] = []impl.Poly{x, bad}
		lists[why+" before another"] = []impl.Poly{bad, x}
		lists[why+" behind 1"] = []impl.Poly{built(5, 2, term(1)), bad}
		lists[why+" behind another prime"] = []impl.Poly{x, built(7, 2, term(1, 1)), bad}
		lists[why+" at the place 8"] = append(slices.Repeat([]impl.Poly{x}, 8), bad)
		lists[why+" far behind"] = append(slices.Repeat([]impl.Poly{x}, 300), bad)
	}
	return lists
}

// wantTexts checks a list of polynomials by their texts, with ErrNone.
func wantTexts(t *testing.T, what string, list []impl.Poly, code int64, want string) {
	t.Helper()
	if code != impl.ErrNone || textsOf(t, list) != want {
		t.Errorf("%s = %v, %d, want %s", what, list, code, want)
	}
}

// wantBool checks a bool with ErrNone.
func wantBool(t *testing.T, what string, yes bool, code int64, want bool) {
	t.Helper()
	if code != impl.ErrNone || yes != want {
		t.Errorf("%s = %v, %d, want %v, 0", what, yes, code, want)
	}
}

// diagonalGroup returns the group of the powers of a matrix with numbers on its diagonal only.
func diagonalGroup(p int64, numbers ...byte) impl.Group {
	var g impl.Matrix
	for i, number := range numbers {
		g[i][i] = number
	}
	n := int64(len(numbers))
	return groupWith(p, n, closedList(p, n, []impl.Matrix{g}, impl.MaxOrder)...)
}

// asked tells a list and a number.
func asked(name string, list []impl.Poly, n int64) string {
	return fmt.Sprintf("%s(%v, %d)", name, list, n)
}
