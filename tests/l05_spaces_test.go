package tests

import (
	"fmt"
	"math"
	"math/rand"
	"slices"
	"testing"

	"loop.example/g01285/impl"
)

func TestSpaceLimits(t *testing.T) {
	if impl.MaxSpace != 6 || impl.MaxList != 8 {
		t.Errorf("limits %d, %d", impl.MaxSpace, impl.MaxList)
	}
}

// allMonomials returns the texts of all monomials of a degree.
func allMonomials(t *testing.T, p int64, d int64, n int64) string {
	t.Helper()
	var list []impl.Poly
	for _, e := range monomials(d, n) {
		list = append(list, built(p, d, impl.Term{Exps: e, Value: 1}))
	}
	return textsOf(t, list)
}

func TestInvariantBasis(t *testing.T) {
	good := []struct {
		g    impl.Group
		n    int64
		want string
	}{
		{named(t, "swap", 5), 0, "1"},
		{named(t, "swap", 5), 1, "1x+1y"},
		{named(t, "swap", 5), 2, "1x2+1y2 1xy"},
		{named(t, "swap", 5), 3, "1x3+1y3 1x2y+1xy2"},
		{named(t, "swap", 5), 6, "1x6+1y6 1x5y+1xy5 1x4y2+1x2y4 1x3y3"},
		{named(t, "swap", 2), 2, "1x2+1y2 1xy"},
		{named(t, "point", 2), 0, "1"},
		{named(t, "point", 2), 6, "1x6"},
		{named(t, "sign", 3), 0, "1"},
		{named(t, "sign", 3), 5, ""},
		{named(t, "sign", 3), 6, "1x6"},
		{named(t, "sign", 2), 5, "1x5"},
		{named(t, "minus", 13), 1, ""},
		{named(t, "minus", 13), 2, "1x2 1xy 1y2"},
		{named(t, "minus", 2), 1, "1x 1y"},
		{named(t, "signs", 7), 4, "1x4 1x2y2 1y4"},
		{named(t, "square", 3), 4, "1x4+1y4 1x2y2"},
		{named(t, "triangle", 5), 2, "1x2+1xy+1y2"},
		{named(t, "turn", 7), 3, "1x3+1y3+1z3 1x2y+1xz2+1y2z 1x2z+1xy2+1yz2 1xyz"},
		{named(t, "turn", 3), 2, "1x2+1y2+1z2 1xy+1xz+1yz"},
		{named(t, "symmetric", 3), 3, "1x3+1y3+1z3 1x2y+1x2z+1xy2+1xz2+1y2z+1yz2 1xyz"},
		{named(t, "cube", 3), 2, "1x2+1y2+1z2"},
		{named(t, "cube", 11), 4, "1x4+1y4+1z4 1x2y2+1x2z2+1y2z2"},
		{named(t, "cube", 11), 5, ""},
		// The letter y is led to y and multiples of x.
		{shears(5), 0, "1"},
		{shears(5), 1, "1x"},
		{shears(5), 4, "1x4"},
		{shears(5), 5, "1x5 1x4y+4y5"},
		{shears(5), 6, "1x6 1x5y+4xy5"},
		{shears(3), 3, "1x3 1x2y+2y3"},
		{shears(2), 2, "1x2 1xy+1y2"},
		{overturned(shears(2)), 2, "1x2+1xy 1y2"},
		{groupWith(3, 2, unitOf(2)), 1, "1x 1y"},
		{groupWith(7, 3, unitOf(3)), 0, "1"},
		{groupWith(7, 3, unitOf(3)), 6, allMonomials(t, 7, 3, 6)},
		{multiplesOf(13, 3, 2), 0, "1"},
		{multiplesOf(13, 3, 2), 6, ""},
		{multiplesOf(7, 3, 2), 3, allMonomials(t, 7, 3, 3)},
		{powersOf(13, 5), 4, "1x4"},
		{greatLinear(), 6, "1x6+1x4y2+1x2y4+1y6"},
	}
	for _, c := range good {
		list, code := impl.InvariantBasis(c.g, c.n)
		wantTexts(t, fmt.Sprintf("InvariantBasis(%v, %d)", c.g, c.n), list, code, c.want)
	}
}

// TestInvariantNumbers takes groups with series that are known, and counts bases.
func TestInvariantNumbers(t *testing.T) {
	for _, c := range hilbertCases(t) {
		for n := range int64(impl.MaxSpace + 1) {
			numbers, code := impl.InvariantNumbers(c.g, n)
			wantNumbers(t, fmt.Sprintf("InvariantNumbers of %s up to %d", c.what, n), numbers, code, c.want[:n+1], impl.ErrNone)
			basis, code := impl.InvariantBasis(c.g, n)
			wantNumber(t, fmt.Sprintf("how many there are in the basis of %s and %d", c.what, n), int64(len(basis)), code, c.want[n], impl.ErrNone)
		}
	}
}

// spaceCalls are the functions of a group and a degree, with the least degree; they report whether the
// result is the zero value.
func spaceCalls(t *testing.T) []struct {
	name  string
	least int64
	call  func(g impl.Group, n int64) (bool, int64)
} {
	list := []impl.Poly{parsed(t, 5, 2, "1x2+1y2")}
	polys := func(list []impl.Poly, code int64) (bool, int64) { return len(list) == 0, code }
	numbers := func(list []int64, code int64) (bool, int64) { return len(list) == 0, code }
	isNot := func(yes bool, code int64) (bool, int64) { return !yes, code }
	return []struct {
		name  string
		least int64
		call  func(g impl.Group, n int64) (bool, int64)
	}{
		{"InvariantBasis", 0, func(g impl.Group, n int64) (bool, int64) { return polys(impl.InvariantBasis(g, n)) }},
		{"InvariantNumbers", 0, func(g impl.Group, n int64) (bool, int64) { return numbers(impl.InvariantNumbers(g, n)) }},
		{"GeneratorsOf", 1, func(g impl.Group, n int64) (bool, int64) { return polys(impl.GeneratorsOf(g, n)) }},
		{"NeededNumbers", 1, func(g impl.Group, n int64) (bool, int64) { return numbers(impl.NeededNumbers(g, n)) }},
		{"IsGenerating by nothing", 1, func(g impl.Group, n int64) (bool, int64) { return isNot(impl.IsGenerating(g, nil, n)) }},
		{"IsGenerating", 1, func(g impl.Group, n int64) (bool, int64) { return isNot(impl.IsGenerating(g, list, n)) }},
	}
}

// TestSpacesOfGroupsErrors gives what is no group, and degrees at and outside of the ends of the range,
// to all functions of groups: what is no group is found first, then numbers, then lists that are too long.
func TestSpacesOfGroupsErrors(t *testing.T) {
	groups := []impl.Group{named(t, "swap", 5), shears(5), groupWith(5, 2, unitOf(2))}
	many := []impl.Group{multiplesOf(7, 3, 2), multiplesOf(5, 3, 2), multiplesOf(13, 3, 3)}
	for _, c := range spaceCalls(t) {
		for n, inside := range askedDegrees(impl.MaxSpace) {
			what := fmt.Sprintf("%s and %d of ", c.name, n)
			for why, g := range noGroups() {
				zero, code := c.call(g, n)
				wantZero(t, what+why, zero, code, impl.ErrInvalid)
			}
			inside = inside && n >= c.least
			for _, g := range groups {
				zero, code := c.call(g, n)
				switch {
				case !inside:
					wantZero(t, what+"a group", zero, code, impl.ErrRange)
				case c.name == "IsGenerating" && len(g.Elements) == 5:
					wantZero(t, what+"a group that does not leave the list", zero, code, impl.ErrState)
				case code != impl.ErrNone:
					t.Errorf("%sa group of %d: code %d", what, len(g.Elements), code)
				}
			}
			for _, g := range many {
				if zero, code := c.call(g, n); !inside {
					wantZero(t, what+"a group with many generators", zero, code, impl.ErrRange)
				}
			}
		}
	}
}

func TestProductExponents(t *testing.T) {
	good := []struct {
		p, d  int64
		texts string
		n     int64
		want  [][]int64
	}{
		{5, 2, "1x+1y 1xy", 0, [][]int64{{0, 0}}},
		{5, 2, "1x+1y 1xy", 1, [][]int64{{1, 0}}},
		{5, 2, "1x+1y 1xy", 2, [][]int64{{2, 0}, {0, 1}}},
		{5, 2, "1x+1y 1xy", 3, [][]int64{{3, 0}, {1, 1}}},
		{5, 2, "1xy 1x+1y", 4, [][]int64{{2, 0}, {1, 2}, {0, 4}}},
		{2, 1, "1x", 0, [][]int64{{0}}},
		{2, 1, "1x", 12, [][]int64{{12}}},
		{2, 1, "1x2", 3, nil},
		{2, 1, "1x2", 12, [][]int64{{6}}},
		{2, 1, "1x5", 11, nil},
		{2, 1, "1x5", 12, nil},
		{2, 1, "1x12", 0, [][]int64{{0}}},
		{2, 1, "1x12", 11, nil},
		{2, 1, "1x12", 12, [][]int64{{1}}},
		{13, 3, "1z12 1y11", 12, [][]int64{{1, 0}}},
		{13, 3, "1z12 1y11", 11, [][]int64{{0, 1}}},
		{13, 3, "1z7 1y7", 12, nil},
		{13, 3, "1z6 1y5", 11, [][]int64{{1, 1}}},
		// Repeated polynomials count at each place of their own, and so do multiples.
		{3, 2, "1x 1x", 2, [][]int64{{2, 0}, {1, 1}, {0, 2}}},
		{3, 2, "1x 2x", 1, [][]int64{{1, 0}, {0, 1}}},
		{3, 2, "1x2 1x 1y2", 2, [][]int64{{1, 0, 0}, {0, 2, 0}, {0, 0, 1}}},
		{3, 2, "1x2 1x 1y2", 3, [][]int64{{1, 1, 0}, {0, 3, 0}, {0, 1, 1}}},
		{7, 3, "1x3 1y2 1z", 6, [][]int64{{2, 0, 0}, {1, 1, 1}, {1, 0, 3}, {0, 3, 0}, {0, 2, 2}, {0, 1, 4}, {0, 0, 6}}},
		{7, 3, "1x3 1y2 1z4", 1, nil},
		{7, 3, "1x3 1y2 1z4", 5, [][]int64{{1, 1, 0}}},
		{11, 2, "1x 1x 1x 1x 1x 1x 1x 1x", 1, [][]int64{
			{1, 0, 0, 0, 0, 0, 0, 0}, {0, 1, 0, 0, 0, 0, 0, 0}, {0, 0, 1, 0, 0, 0, 0, 0}, {0, 0, 0, 1, 0, 0, 0, 0},
			{0, 0, 0, 0, 1, 0, 0, 0}, {0, 0, 0, 0, 0, 1, 0, 0}, {0, 0, 0, 0, 0, 0, 1, 0}, {0, 0, 0, 0, 0, 0, 0, 1},
		}},
	}
	for _, c := range good {
		list := splitPolys(t, c.p, c.d, c.texts)
		lists, code := impl.ProductExponents(list, c.n)
		wantLists(t, fmt.Sprintf("ProductExponents(%s, %d)", c.texts, c.n), lists, code, c.want, impl.ErrNone)
	}
}

// checkExponents checks that there are all lists of exponents of a degree, in order: as many as there
// are ways to write it, none of which is like another one.
func checkExponents(t *testing.T, degrees []int64, n int64, lists [][]int64) {
	t.Helper()
	if want := waysByHand(degrees, n); int64(len(lists)) != want {
		t.Fatalf("ProductExponents of %v, %d: %d lists, want %d", degrees, n, len(lists), want)
	}
	for i, exps := range lists {
		sum := int64(0)
		for j, exponent := range exps {
			if exponent < 0 {
				t.Fatalf("ProductExponents of %v, %d: %v", degrees, n, exps)
			}
			sum += exponent * degrees[j]
		}
		if len(exps) != len(degrees) || sum != n || i > 0 && slices.Compare(lists[i-1], exps) <= 0 {
			t.Fatalf("ProductExponents of %v, %d: %v at %d", degrees, n, exps, i)
		}
	}
}

func TestProductExponentsAgree(t *testing.T) {
	r := rand.New(rand.NewSource(33))
	for count := 1; count <= impl.MaxList; count++ {
		for n := range int64(impl.MaxDegree + 1) {
			for _, greatest := range []int64{3, 5, 12} {
				degrees := randomDegrees(r, count, greatest)
				var list []impl.Poly
				for _, k := range degrees {
					list = append(list, randomForm(r, 5, 2, k))
				}
				lists, code := impl.ProductExponents(list, n)
				if code != impl.ErrNone {
					t.Fatalf("%s: code %d", asked("ProductExponents", list, n), code)
				}
				checkExponents(t, degrees, n, lists)
			}
		}
	}
	lists, code := impl.ProductExponents(slices.Repeat([]impl.Poly{parsed(t, 2, 3, "1x+1z")}, impl.MaxList), impl.MaxDegree)
	if code != impl.ErrNone || len(lists) != 50388 {
		t.Errorf("ProductExponents of eight letters: %d lists, %d", len(lists), code)
	}
	checkExponents(t, slices.Repeat([]int64{1}, impl.MaxList), impl.MaxDegree, lists)
}

func TestProductOfList(t *testing.T) {
	good := []struct {
		p, d  int64
		texts string
		exps  []int64
		want  string
	}{
		{5, 2, "1x+1y 1xy", []int64{0, 0}, "1"},
		{5, 2, "1x+1y 1xy", []int64{1, 0}, "1x+1y"},
		{5, 2, "1x+1y 1xy", []int64{0, 1}, "1xy"},
		{5, 2, "1x+1y 1xy", []int64{1, 1}, "1x2y+1xy2"},
		{5, 2, "1x+1y 1xy", []int64{2, 1}, "1x3y+2x2y2+1xy3"},
		{5, 2, "1x+1y 1xy", []int64{0, 6}, "1x6y6"},
		{5, 2, "1x+1y 1xy", []int64{2, 5}, "1x7y5+2x6y6+1x5y7"},
		{5, 2, "1x+1y 1xy", []int64{10, 1}, "1x11y+2x6y6+1xy11"},
		{2, 1, "1x", []int64{12}, "1x12"},
		{2, 1, "1x", []int64{0}, "1"},
		{2, 1, "1x12", []int64{1}, "1x12"},
		{2, 1, "1x12", []int64{0}, "1"},
		{2, 2, "1x+1y", []int64{12}, "1x12+1x8y4+1x4y8+1y12"},
		{13, 3, "2x 3y 5z", []int64{1, 1, 1}, "4xyz"},
		{13, 3, "2x 3y 5z", []int64{0, 0, 2}, "12z2"},
		{3, 2, "2x 2x 2x", []int64{1, 1, 2}, "1x4"},
		{3, 1, "2x 2x 2x 2x 2x 2x 2x 2x", []int64{1, 0, 1, 0, 0, 0, 0, 1}, "2x3"},
		{3, 1, "1x 1x 1x 1x 1x 1x 1x 1x5", []int64{1, 1, 1, 1, 1, 1, 1, 1}, "1x12"},
	}
	for _, c := range good {
		f, code := impl.ProductOfList(splitPolys(t, c.p, c.d, c.texts), c.exps)
		wantPoly(t, fmt.Sprintf("ProductOfList(%s, %v)", c.texts, c.exps), f, code, parsed(t, c.p, c.d, c.want))
	}
}

func TestProductOfListErrors(t *testing.T) {
	cases := []struct {
		texts string
		exps  []int64
		want  int64
	}{
		{"1x+1y 1xy", nil, impl.ErrRange},
		{"1x+1y 1xy", []int64{}, impl.ErrRange},
		{"1x+1y 1xy", []int64{1}, impl.ErrRange},
		{"1x+1y 1xy", []int64{1, 1, 0}, impl.ErrRange},
		{"1x+1y 1xy", zeros(100), impl.ErrRange},
		{"1x+1y 1xy", []int64{-1, 0}, impl.ErrRange},
		{"1x+1y 1xy", []int64{0, -1}, impl.ErrRange},
		{"1x+1y 1xy", []int64{math.MinInt64, 1}, impl.ErrRange},
		{"1x+1y 1xy", []int64{2, -1}, impl.ErrRange},
		// Exponents that are in no range are found before degrees that are too great.
		{"1x+1y 1xy", []int64{13, -1}, impl.ErrRange},
		{"1x+1y 1xy", []int64{-1, 7}, impl.ErrRange},
		{"1x+1y 1xy", []int64{13}, impl.ErrRange},
		{"1x+1y 1xy", []int64{math.MaxInt64, math.MinInt64}, impl.ErrRange},
		{"1x+1y 1xy", []int64{13, 0}, impl.ErrLimit},
		{"1x+1y 1xy", []int64{0, 7}, impl.ErrLimit},
		{"1x+1y 1xy", []int64{1, 6}, impl.ErrLimit},
		{"1x+1y 1xy", []int64{3, 5}, impl.ErrLimit},
		{"1x+1y 1xy", []int64{11, 1}, impl.ErrLimit},
		{"1x12 1y", []int64{1, 1}, impl.ErrLimit},
		{"1x12", []int64{2}, impl.ErrLimit},
		// Sums and products that are small, or less than 0, modulo 2 to the power of 64.
		{"1x+1y 1xy", []int64{math.MaxInt64, 0}, impl.ErrLimit},
		{"1x+1y 1xy", []int64{math.MaxInt64, math.MaxInt64}, impl.ErrLimit},
		{"1x+1y 1xy", []int64{0, 1 << 62}, impl.ErrLimit},
		{"1x+1y 1xy", []int64{1 << 62, 1 << 61}, impl.ErrLimit},
		{"1x4 1y", []int64{1 << 62, 0}, impl.ErrLimit},
		{"1x4 1y", []int64{1 << 62, 1}, impl.ErrLimit},
		{"1y 1x4", []int64{2, 1 << 62}, impl.ErrLimit},
		{"1y 1x8", []int64{0, 1 << 61}, impl.ErrLimit},
		{"1y 1x", []int64{math.MaxInt64, 2}, impl.ErrLimit},
		{"1y 1x 1x", []int64{math.MaxInt64, math.MaxInt64, 2}, impl.ErrLimit},
		{"1y 1x", []int64{1 << 32, 0}, impl.ErrLimit},
		{"1y 1x", []int64{256, 0}, impl.ErrLimit},
	}
	for _, c := range cases {
		f, code := impl.ProductOfList(splitPolys(t, 5, 2, c.texts), c.exps)
		wantNoPoly(t, fmt.Sprintf("ProductOfList(%s, %v)", c.texts, c.exps), f, code, c.want)
	}
}

// TestProductOfListAgrees multiplies by hand, and takes exponents of all degrees up to that which is
// too great.
func TestProductOfListAgrees(t *testing.T) {
	r := rand.New(rand.NewSource(34))
	found, refused := 0, 0
	for range 1500 {
		p, d := primes[r.Intn(len(primes))], 1+r.Int63n(3)
		list := randomForms(r, p, d, 1+r.Intn(impl.MaxList), 4)
		exps, factors, degree := zeros(len(list)), []impl.Poly{}, int64(0)
		for range r.Intn(9) {
			i := r.Intn(len(list))
			exps[i]++
			factors = append(factors, list[i])
			degree += topDegree(list[i])
		}
		f, code := impl.ProductOfList(list, exps)
		what := fmt.Sprintf("ProductOfList(%v, %v)", list, exps)
		if degree > impl.MaxDegree {
			refused++
			wantNoPoly(t, what, f, code, impl.ErrLimit)
			continue
		}
		found++
		wantPoly(t, what, f, code, multiplied(list[0], factors))
	}
	if found < 300 || refused < 300 {
		t.Errorf("%d products are made, %d are refused", found, refused)
	}
}

func TestGeneratedBasis(t *testing.T) {
	good := []struct {
		p, d  int64
		texts string
		n     int64
		want  string
	}{
		{5, 2, "1x+1y 1xy", 0, "1"},
		{5, 2, "1x+1y 1xy", 1, "1x+1y"},
		{5, 2, "1x+1y 1xy", 2, "1x2+1y2 1xy"},
		{5, 2, "1x+1y 1xy", 3, "1x3+1y3 1x2y+1xy2"},
		{5, 2, "3x", 1, "1x"},
		{5, 2, "3x", 12, "1x12"},
		{5, 2, "1x2", 3, ""},
		{5, 2, "1x2", 1, ""},
		{5, 2, "1x5 1y7", 11, ""},
		{5, 2, "1x5 1y7", 12, "1x5y7"},
		{5, 2, "2x12", 12, "1x12"},
		{5, 2, "2x12", 11, ""},
		{5, 2, "2x12", 0, "1"},
		// What is repeated, or a multiple, adds nothing.
		{7, 2, "1x2+1y2 1x2+1y2 2x2+2y2", 2, "1x2+1y2"},
		{7, 2, "1x2+1y2 1x2+1y2 2x2+2y2", 4, "1x4+2x2y2+1y4"},
		{7, 2, "1x+1y 1x+6y", 1, "1x 1y"},
		{7, 2, "1x+1y 1x+6y 1x2 1x3+3y3", 2, "1x2 1xy 1y2"},
		// Modulo 2 squares of sums are sums of squares.
		{2, 2, "1x+1y 1x2+1y2", 2, "1x2+1y2"},
		{2, 2, "1x+1y 1x2+1y2 1xy", 2, "1x2+1y2 1xy"},
		{3, 3, "1y 1x", 2, "1x2 1xy 1y2"},
		{3, 3, "1z 1y 1x", 1, "1x 1y 1z"},
		{11, 1, "2x3 3x2", 12, "1x12"},
		{11, 1, "2x3 3x2", 1, ""},
		{13, 2, "1x 1y", 12, allMonomials(t, 13, 2, 12)},
		{2, 3, "1x+1y 1y+1z 1z", 12, allMonomials(t, 2, 3, 12)},
		{13, 3, "1x 1y 1z 1x+1y 1x+1z 1y+1z 1x+1y+1z 1x+2y+3z", 12, allMonomials(t, 13, 3, 12)},
		{13, 3, "1x2 1xy 1xz 1y2 1yz 1z2 1x2+1y2 1x2+1z2", 12, allMonomials(t, 13, 3, 12)},
		{13, 3, "1x2 1xy 1xz 1y2 1yz 1z2 1x2+1y2 1x2+1z2", 11, ""},
	}
	for _, c := range good {
		list, code := impl.GeneratedBasis(splitPolys(t, c.p, c.d, c.texts), c.n)
		wantTexts(t, fmt.Sprintf("GeneratedBasis(%s, %d)", c.texts, c.n), list, code, c.want)
	}
}

func TestIsGenerated(t *testing.T) {
	cases := []struct {
		p, d     int64
		texts, f string
		want     bool
	}{
		{5, 2, "1x+1y 1xy", "1x3+1y3", true},
		{5, 2, "1x+1y 1xy", "1x3", false},
		{5, 2, "1x+1y 1xy", "1x+1y", true},
		{5, 2, "1x+1y 1xy", "4x+4y", true},
		{5, 2, "1x+1y 1xy", "1x+4y", false},
		{5, 2, "1x+1y 1xy", "1x", false},
		{5, 2, "1x+1y 1xy", "1x12+1y12", true},
		{5, 2, "1x+1y 1xy", "1x12+4y12", false},
		{5, 2, "1x+1y 1xy", "3x11y+2x6y6+3xy11", true},
		// 0 is in each space, and the product of no polynomials is 1.
		{5, 2, "1x+1y 1xy", "0", true},
		{5, 2, "1x12", "0", true},
		{5, 2, "1x+1y 1xy", "1", true},
		{5, 2, "1x12", "4", true},
		{5, 2, "1x12", "1x12", true},
		{5, 2, "1x12", "3x12", true},
		{5, 2, "1x12", "1x12+1y12", false},
		{5, 2, "1x12", "1x11", false},
		{5, 2, "1x2", "1x3", false},
		{5, 2, "1x2", "1x", false},
		{5, 2, "1x2 1x2", "1x4", true},
		{5, 2, "1x2 1y2", "1x4+2x2y2+3y4", true},
		{5, 2, "1x2 1y2", "1x3y", false},
		{2, 2, "1x+1y", "1x2+1y2", true},
		{3, 2, "1x+1y", "1x2+1y2", false},
		{13, 1, "5x", "7x12", true},
		{7, 3, "1x 1y 1z 1x 1y 1z 1x 1y", "1x4y4z4", true},
		{7, 3, "1x 1y 1x 1y 1x 1y 1x 1y", "1x4y4z4", false},
	}
	for _, c := range cases {
		yes, code := impl.IsGenerated(splitPolys(t, c.p, c.d, c.texts), parsed(t, c.p, c.d, c.f))
		wantBool(t, fmt.Sprintf("IsGenerated(%s, %s)", c.texts, c.f), yes, code, c.want)
	}
}

func TestIsGeneratedErrors(t *testing.T) {
	wantUnfitRefused(t, "IsGenerated", impl.IsGenerated)
}

// wantUnfitRefused calls a function of a list and a polynomial with such that do not fit each other, and with
// what is no polynomial, also together with what is no list.
func wantUnfitRefused(t *testing.T, name string, call func(list []impl.Poly, f impl.Poly) (bool, int64)) {
	t.Helper()
	list := splitPolys(t, 5, 2, "1x+1y 1xy")
	unfit := []impl.Poly{
		parsed(t, 5, 2, "1+1x+1y"), parsed(t, 5, 2, "1x+1y+1xy"), parsed(t, 5, 2, "1x11+1x12"), parsed(t, 5, 2, "1+1x12"),
		parsed(t, 7, 2, "1x+1y"), parsed(t, 5, 1, "1x"), parsed(t, 5, 3, "1x+1y"), parsed(t, 3, 1, "1x"),
		parsed(t, 7, 2, "0"), parsed(t, 5, 3, "0"), parsed(t, 5, 1, "1"), parsed(t, 2, 2, "1"), parsed(t, 7, 3, "1x+1y2"),
	}
	for _, f := range unfit {
		yes, code := call(list, f)
		wantZero(t, fmt.Sprintf("%s(.., %v)", name, f), !yes, code, impl.ErrRange)
		yes, code = call(nil, f)
		wantZero(t, fmt.Sprintf("%s(nil, %v)", name, f), !yes, code, impl.ErrRange)
	}
	for why, f := range badPolys() {
		for _, of := range [][]impl.Poly{list, nil, {parsed(t, 7, 3, "1+1x")}, {{}}, slices.Repeat(list, 5)} {
			yes, code := call(of, f)
			wantZero(t, fmt.Sprintf("%s(%v, %s)", name, of, why), !yes, code, impl.ErrInvalid)
		}
	}
}

// listCalls are the functions of a list, with other arguments of all kinds; they report whether the
// result is the zero value.
func listCalls(t *testing.T) map[string]func(list []impl.Poly) (bool, int64) {
	calls := map[string]func(list []impl.Poly) (bool, int64){}
	for n := range askedDegrees(impl.MaxDegree) {
		calls[fmt.Sprint("ProductExponents ", n)] = func(list []impl.Poly) (bool, int64) {
			lists, code := impl.ProductExponents(list, n)
			return len(lists) == 0, code
		}
		calls[fmt.Sprint("GeneratedBasis ", n)] = func(list []impl.Poly) (bool, int64) {
			polys, code := impl.GeneratedBasis(list, n)
			return len(polys) == 0, code
		}
	}
	for _, exps := range [][]int64{nil, {0}, {1}, {1, 1}, {13}, {0, 0, 0}, {13, 0}, {-1}, zeros(8), zeros(9), row(9, 13), zeros(1000)} {
		calls[fmt.Sprint("ProductOfList ", exps)] = func(list []impl.Poly) (bool, int64) {
			f, code := impl.ProductOfList(list, exps)
			return isZeroPoly(f), code
		}
	}
	for _, text := range []string{"0", "1", "1x", "1x+1x2", "1y12"} {
		f := parsed(t, 5, 2, text)
		calls["IsGenerated "+text] = func(list []impl.Poly) (bool, int64) {
			yes, code := impl.IsGenerated(list, f)
			return !yes, code
		}
	}
	return calls
}

// generatingCalls are those of IsGenerating, with groups that leave nothing, all, or are none for the
// list, and degrees of all kinds.
func generatingCalls(t *testing.T) map[string]func(list []impl.Poly) (bool, int64) {
	groups := map[string]impl.Group{
		"swap": named(t, "swap", 5), "all": groupWith(5, 2, unitOf(2)), "minus": named(t, "minus", 5), "cube": named(t, "cube", 5),
		"shears": shears(5), "another prime": named(t, "swap", 7), "another size": named(t, "turn", 5), "size 1": named(t, "sign", 5),
	}
	calls := map[string]func(list []impl.Poly) (bool, int64){}
	for name, g := range groups {
		for n := range askedDegrees(impl.MaxSpace) {
			calls[fmt.Sprint("IsGenerating ", name, " ", n)] = func(list []impl.Poly) (bool, int64) {
				yes, code := impl.IsGenerating(g, list, n)
				return !yes, code
			}
		}
	}
	return calls
}

// TestListErrors gives what is no list to all functions of lists; only IsGenerating takes an empty one.
func TestListErrors(t *testing.T) {
	wantNoListsRefused(t, listCalls(t))
	wantEmptyRefused(t, listCalls(t))
	wantNoListsRefused(t, generatingCalls(t))
}

// wantNoListsRefused gives what is no list to functions: what is no polynomial is found first, and what is no
// list before what is too great, or is not invariant.
func wantNoListsRefused(t *testing.T, calls map[string]func(list []impl.Poly) (bool, int64)) {
	t.Helper()
	for name, call := range calls {
		for why, list := range noPolyLists() {
			zero, code := call(list)
			wantZero(t, name+" of "+why, zero, code, impl.ErrInvalid)
		}
		for why, list := range noLists() {
			zero, code := call(list)
			wantZero(t, name+" of "+why, zero, code, impl.ErrRange)
		}
	}
}

// wantEmptyRefused gives no polynomials to functions of at least one.
func wantEmptyRefused(t *testing.T, calls map[string]func(list []impl.Poly) (bool, int64)) {
	t.Helper()
	for name, call := range calls {
		for _, list := range [][]impl.Poly{nil, {}, make([]impl.Poly, 0, 3)} {
			zero, code := call(list)
			wantZero(t, name+" of nothing", zero, code, impl.ErrRange)
		}
	}
}

// TestDegreesOfProducts asks at and outside of the ends of the range, for lists of all lengths.
func TestDegreesOfProducts(t *testing.T) {
	x := built(5, 2, term(1, 1))
	for count := 1; count <= impl.MaxList; count++ {
		list := slices.Repeat([]impl.Poly{x}, count)
		for n, inside := range askedDegrees(impl.MaxDegree) {
			lists, code := impl.ProductExponents(list, n)
			polys, other := impl.GeneratedBasis(list, n)
			if !inside {
				wantZero(t, asked("ProductExponents", list, n), len(lists) == 0, code, impl.ErrRange)
				wantZero(t, asked("GeneratedBasis", list, n), len(polys) == 0, other, impl.ErrRange)
				continue
			}
			if code != impl.ErrNone || len(lists) == 0 {
				t.Errorf("%s: %d lists, %d", asked("ProductExponents", list, n), len(lists), code)
			}
			wantPolys(t, asked("GeneratedBasis", list, n), polys, other, []impl.Poly{built(5, 2, term(1, byte(n)))}, impl.ErrNone)
		}
	}
}

// generatingCase is a list that is generating for a group up to a degree, and not up to the next one; 0
// stands for one that is generating up to none, and MaxSpace for one that always is.
type generatingCase struct {
	g     impl.Group
	texts string
	last  int64
}

func generatingCases(t *testing.T) []generatingCase {
	return []generatingCase{
		{named(t, "swap", 5), "1x+1y 1xy", 6},
		{named(t, "swap", 5), "1x+1y 1x2+1y2", 6},
		{named(t, "swap", 2), "1x+1y 1xy", 6},
		// Modulo 2 the sum of the squares is the square of the sum.
		{named(t, "swap", 2), "1x+1y 1x2+1y2", 1},
		{named(t, "swap", 5), "1x+1y", 1},
		{named(t, "swap", 5), "1xy", 0},
		{named(t, "swap", 5), "", 0},
		{named(t, "swap", 5), "1x+1y 1x3+1y3", 1},
		{named(t, "minus", 3), "1x2 1xy 1y2", 6},
		{named(t, "minus", 3), "1x2 1y2", 1},
		{named(t, "minus", 3), "1x2+1y2 1x2+2y2 1xy", 6},
		{named(t, "minus", 3), "1x2+1y2 1x2+2y2 1x2", 1},
		{named(t, "minus", 3), "", 1},
		{named(t, "square", 3), "1x2+1y2", 3},
		{named(t, "square", 3), "1x2+1y2 1x2y2", 6},
		{named(t, "square", 3), "1x2+1y2 1x4+1y4", 6},
		{named(t, "square", 3), "1x2+1y2 1x12+1y12", 3},
		{named(t, "turn", 7), "1x+1y+1z 1xy+1xz+1yz 1xyz", 2},
		{named(t, "turn", 7), "1x+1y+1z 1xy+1xz+1yz 1xyz 1x2y+1xz2+1y2z", 6},
		{named(t, "symmetric", 7), "1x+1y+1z 1xy+1xz+1yz", 2},
		{named(t, "symmetric", 7), "1x+1y+1z 1xy+1xz+1yz 1xyz", 6},
		{named(t, "cube", 3), "1x2+1y2+1z2 1x4+1y4+1z4", 5},
		{named(t, "cube", 3), "1x2+1y2+1z2 1x2y2+1x2z2+1y2z2", 5},
		{named(t, "cube", 3), "1x2+1y2+1z2 1x2y2+1x2z2+1y2z2 1x2y2z2", 6},
		{named(t, "triangle", 5), "", 1},
		{shears(5), "1x", 4},
		{shears(5), "1x5", 0},
		{shears(5), "1x 1x4y+4y5", 6},
		{shears(5), "1x 1x 1x 1x 1x 1x 1x 1x4y+4y5", 6},
		{shears(5), "1x 1x 1x 1x 1x 1x 1x 1x", 4},
		{groupWith(5, 3, unipotents(5)...), "1x", 4},
		{groupWith(2, 1, unitOf(1)), "1x", 6},
		{groupWith(2, 1, unitOf(1)), "1x2", 0},
		{groupWith(2, 3, unitOf(3)), "1x 1y 1z", 6},
		{groupWith(2, 3, unitOf(3)), "1x+1y 1y+1z 1x+1y+1z", 6},
		{groupWith(2, 3, unitOf(3)), "1x+1y 1y+1z 1x+1z", 0},
		{groupWith(2, 3, unitOf(3)), "1x 1y", 0},
		{groupWith(2, 3, unitOf(3)), "", 0},
		// There are no invariants of degrees of at least 1, or none up to 5.
		{multiplesOf(13, 3, 2), "", 6},
		{multiplesOf(13, 3, 2), "1x12", 6},
		{powersOf(7, 3), "", 5},
		{powersOf(7, 3), "2x6", 6},
		{powersOf(7, 3), "1x12", 5},
		{named(t, "sign", 5), "1x4", 1},
		{named(t, "sign", 5), "3x2", 6},
		// As many monomials as there are in eight polynomials and two more.
		{multiplesOf(7, 3, 2), "1x3 1x2y 1x2z 1xy2 1xyz 1xz2 1y3 1y2z", 2},
	}
}

func TestIsGenerating(t *testing.T) {
	for _, c := range generatingCases(t) {
		list := splitPolys(t, c.g.Prime, c.g.Size, c.texts)
		for n := int64(1); n <= impl.MaxSpace; n++ {
			yes, code := impl.IsGenerating(c.g, list, n)
			wantBool(t, fmt.Sprintf("IsGenerating(%v, %s, %d)", c.g, c.texts, n), yes, code, n <= c.last)
		}
	}
}

// TestIsGeneratingErrors gives lists that do not fit the group, or that are not invariant, together
// with degrees that are in no range.
func TestIsGeneratingErrors(t *testing.T) {
	cases := []struct {
		g     impl.Group
		p, d  int64
		texts string
		want  int64
	}{
		{named(t, "swap", 5), 5, 2, "1x", impl.ErrState},
		{named(t, "swap", 5), 5, 2, "1x+1y 1xy 1x2", impl.ErrState},
		{named(t, "swap", 5), 5, 2, "1x+4y 1xy", impl.ErrState},
		{named(t, "swap", 5), 5, 2, "1xy 1x+1y 1x12", impl.ErrState},
		{named(t, "swap", 5), 5, 2, "1xy 1xy 1xy 1xy 1xy 1xy 1xy 1x2y", impl.ErrState},
		{named(t, "minus", 3), 3, 2, "1x", impl.ErrState},
		{named(t, "cube", 3), 3, 3, "1x2+1y2+1z2 1xyz", impl.ErrState},
		{named(t, "turn", 3), 3, 3, "1x2y+1xy2", impl.ErrState},
		{shears(5), 5, 2, "1y", impl.ErrState},
		{shears(5), 5, 2, "1x 1y5", impl.ErrState},
		{multiplesOf(13, 3, 2), 13, 3, "1x11", impl.ErrState},
		{named(t, "swap", 5), 7, 2, "1x+1y 1xy", impl.ErrRange},
		{named(t, "swap", 5), 5, 3, "1x+1y 1xy", impl.ErrRange},
		{named(t, "swap", 5), 5, 1, "1x", impl.ErrRange},
		{named(t, "swap", 5), 7, 2, "1x", impl.ErrRange},
		{named(t, "turn", 5), 5, 2, "1x+1y", impl.ErrRange},
		{groupWith(5, 2, unitOf(2)), 3, 2, "1x 1y", impl.ErrRange},
		{groupWith(5, 2, unitOf(2)), 5, 3, "1x 1y 1z", impl.ErrRange},
	}
	for _, c := range cases {
		list := splitPolys(t, c.p, c.d, c.texts)
		for n, inside := range askedDegrees(impl.MaxSpace) {
			want := c.want
			if !inside || n == 0 {
				want = impl.ErrRange
			}
			yes, code := impl.IsGenerating(c.g, list, n)
			wantZero(t, fmt.Sprintf("IsGenerating(%v, %s, %d)", c.g, c.texts, n), !yes, code, want)
		}
	}
	// What is no group is found with what is no polynomial, before all else.
	for why, g := range noGroups() {
		for of, list := range noLists() {
			yes, code := impl.IsGenerating(g, list, 7)
			wantZero(t, "IsGenerating "+why+" of "+of, !yes, code, impl.ErrInvalid)
		}
	}
}

// generatorCase is a group with its generators up to 6; those of a degree stand together. After the
// degree tooMany, if it is not 0, there are more than MaxList.
type generatorCase struct {
	g       impl.Group
	want    string
	tooMany int64
}

func generatorCases(t *testing.T) []generatorCase {
	return []generatorCase{
		{named(t, "point", 3), "1x", 0},
		{named(t, "sign", 3), "1x2", 0},
		{named(t, "minus", 5), "1x2 1xy 1y2", 0},
		{named(t, "swap", 5), "1x+1y 1xy", 0},
		{named(t, "swap", 2), "1x+1y 1xy", 0},
		{named(t, "signs", 5), "1x2 1y2", 0},
		{named(t, "square", 3), "1x2+1y2 1x2y2", 0},
		{named(t, "triangle", 5), "1x2+1xy+1y2 1x2y+1xy2", 0},
		// Of the four of the degree 3 those that begin with x3 and x2y are generated, up to others.
		{named(t, "turn", 7), "1x+1y+1z 1xy+1xz+1yz 1x2z+1xy2+1yz2 1xyz", 0},
		{named(t, "symmetric", 2), "1x+1y+1z 1xy+1xz+1yz 1xyz", 0},
		{named(t, "cube", 7), "1x2+1y2+1z2 1x2y2+1x2z2+1y2z2 1x2y2z2", 0},
		{shears(5), "1x 1x4y+4y5", 0},
		{shears(3), "1x 1x2y+2y3", 0},
		{shears(7), "1x", 0},
		{groupWith(11, 1, unitOf(1)), "1x", 0},
		{groupWith(11, 2, unitOf(2)), "1x 1y", 0},
		{groupWith(11, 3, unitOf(3)), "1x 1y 1z", 0},
		{multiplesOf(13, 3, 2), "", 0},
		{powersOf(7, 3), "1x6", 0},
		{greatLinear(), "1x6+1x4y2+1x2y4+1y6", 0},
		{multiplesOf(3, 3, 2), "1x2 1xy 1xz 1y2 1yz 1z2", 0},
		{multiplesOf(7, 2, 3), "1x6 1x5y 1x4y2 1x3y3 1x2y4 1xy5 1y6", 0},
		// Eight are not too many, nine are.
		{diagonalGroup(5, 2, 2, 3), "1xz 1yz 1x4 1x3y 1x2y2 1xy3 1y4 1z4", 0},
		{diagonalGroup(5, 2, 2, 4), "1z2 1x2z 1xyz 1y2z", 4},
		{multiplesOf(7, 3, 2), "", 3},
		{multiplesOf(5, 3, 2), "", 4},
		{diagonalGroup(11, 3, 3, 3), "", 5},
		{diagonalGroup(7, 3, 3, 3), "", 6},
	}
}

func TestGeneratorsOf(t *testing.T) {
	for _, c := range generatorCases(t) {
		all := splitPolys(t, c.g.Prime, c.g.Size, c.want)
		for n := int64(1); n <= impl.MaxSpace; n++ {
			list, code := impl.GeneratorsOf(c.g, n)
			numbers, other := impl.NeededNumbers(c.g, n)
			what := fmt.Sprintf("(%v, %d)", c.g, n)
			if c.tooMany > 0 && n >= c.tooMany {
				wantPolys(t, "GeneratorsOf"+what, list, code, nil, impl.ErrLimit)
				wantNumbers(t, "NeededNumbers"+what, numbers, other, nil, impl.ErrLimit)
				continue
			}
			var want []impl.Poly
			for _, f := range all {
				if topDegree(f) <= n {
					want = append(want, f)
				}
			}
			wantPolys(t, "GeneratorsOf"+what, list, code, want, impl.ErrNone)
			wantNumbers(t, "NeededNumbers"+what, numbers, other, neededByHand(want, n), impl.ErrNone)
		}
	}
}

func TestNeededNumbers(t *testing.T) {
	cases := []struct {
		g    impl.Group
		want []int64
	}{
		{named(t, "minus", 5), []int64{0, 3, 0, 0}},
		{named(t, "minus", 5), []int64{0}},
		{named(t, "swap", 2), []int64{1, 1, 0, 0, 0, 0}},
		{named(t, "turn", 5), []int64{1, 1, 2, 0, 0, 0}},
		{groupWith(2, 3, unitOf(3)), []int64{3}},
		{groupWith(2, 3, unitOf(3)), []int64{3, 0, 0, 0, 0, 0}},
		{multiplesOf(13, 3, 2), []int64{0, 0, 0, 0, 0, 0}},
		{diagonalGroup(5, 2, 2, 3), []int64{0, 2, 0, 6, 0, 0}},
		{shears(5), []int64{1, 0, 0, 0, 1}},
	}
	for _, c := range cases {
		numbers, code := impl.NeededNumbers(c.g, int64(len(c.want)))
		wantNumbers(t, fmt.Sprintf("NeededNumbers(%v, %d)", c.g, len(c.want)), numbers, code, c.want, impl.ErrNone)
	}
}

func TestRowOfPoly(t *testing.T) {
	good := []struct {
		p, d int64
		text string
		n    int64
		want []int64
	}{
		{5, 2, "1x+2x2+3y2", 2, []int64{2, 0, 3}},
		{5, 2, "1x+2x2+3y2", 1, []int64{1, 0}},
		{5, 2, "1x+2x2+3y2", 0, []int64{0}},
		{5, 2, "4+2x2+3y2", 0, []int64{4}},
		{5, 2, "1x+2x2+3y2", 3, []int64{0, 0, 0, 0}},
		{5, 2, "1x+2x2+3y2", 12, zeros(13)},
		{5, 2, "1x12+4y12", 12, append(begun(12, 1), 4)},
		{5, 2, "0", 0, []int64{0}},
		{5, 2, "0", 2, []int64{0, 0, 0}},
		{2, 1, "1+1x+1x12", 0, []int64{1}},
		{2, 1, "1+1x+1x12", 11, []int64{0}},
		{2, 1, "1+1x+1x12", 12, []int64{1}},
		{13, 3, "5x+6y+7z", 1, []int64{5, 6, 7}},
		{13, 3, "1x2+2xy+3xz+4y2+5yz+6z2", 2, []int64{1, 2, 3, 4, 5, 6}},
		{13, 3, "12x+2xz+1y3", 2, []int64{0, 0, 2, 0, 0, 0}},
		{13, 3, "12z12", 12, append(zeros(90), 12)},
		{13, 3, "12z12", 11, zeros(78)},
	}
	for _, c := range good {
		row, code := impl.RowOfPoly(parsed(t, c.p, c.d, c.text), c.n)
		wantNumbers(t, fmt.Sprintf("RowOfPoly(%s, %d)", c.text, c.n), row, code, c.want, impl.ErrNone)
	}
	for n, inside := range askedDegrees(impl.MaxDegree) {
		for _, f := range []impl.Poly{parsed(t, 5, 2, "1x+2y12"), built(2, 1), parsed(t, 13, 3, "1")} {
			row, code := impl.RowOfPoly(f, n)
			if inside {
				wantNumbers(t, fmt.Sprintf("RowOfPoly(%v, %d)", f, n), row, code, rowByHand(f, n), impl.ErrNone)
			} else {
				wantNumbers(t, fmt.Sprintf("RowOfPoly(%v, %d)", f, n), row, code, nil, impl.ErrRange)
			}
		}
		for why, f := range badPolys() {
			row, code := impl.RowOfPoly(f, n)
			wantNumbers(t, fmt.Sprintf("RowOfPoly(%s, %d)", why, n), row, code, nil, impl.ErrInvalid)
		}
	}
}

func TestPolyOfRow(t *testing.T) {
	good := []struct {
		p, d, n int64
		row     []int64
		want    string
	}{
		{5, 2, 2, []int64{2, 0, 3}, "2x2+3y2"},
		{5, 2, 2, []int64{0, 4, 0}, "4xy"},
		{5, 2, 2, []int64{0, 0, 0}, "0"},
		{5, 2, 0, []int64{0}, "0"},
		{5, 2, 0, []int64{4}, "4"},
		{5, 2, 12, append(begun(12, 1), 4), "1x12+4y12"},
		{2, 1, 0, []int64{1}, "1"},
		{2, 1, 12, []int64{1}, "1x12"},
		{13, 3, 1, []int64{12, 0, 12}, "12x+12z"},
		{13, 3, 2, []int64{1, 2, 3, 4, 5, 6}, "1x2+2xy+3xz+4y2+5yz+6z2"},
		{13, 3, 12, append(zeros(90), 12), "12z12"},
	}
	for _, c := range good {
		f, code := impl.PolyOfRow(c.p, c.d, c.n, c.row)
		wantPoly(t, fmt.Sprintf("PolyOfRow(%v)", c), f, code, parsed(t, c.p, c.d, c.want))
	}
}

func TestPolyOfRowErrors(t *testing.T) {
	bad := []struct {
		p, d, n int64
		row     []int64
	}{
		{5, 2, 2, nil},
		{5, 2, 2, []int64{1, 2}},
		{5, 2, 2, []int64{1, 2, 3, 4}},
		{5, 2, 0, nil},
		{5, 2, 0, []int64{1, 1}},
		{5, 3, 2, []int64{1, 2, 3}},
		{5, 1, 2, []int64{1, 2, 3}},
		{5, 2, 12, zeros(12)},
		{5, 2, 12, zeros(14)},
		{5, 3, 12, zeros(90)},
		{5, 3, 12, zeros(92)},
		{5, 2, 2, []int64{1, 2, 5}},
		{5, 2, 2, []int64{5, 0, 0}},
		{5, 2, 2, []int64{0, -1, 0}},
		{5, 2, 2, []int64{0, 6, 0}},
		{5, 2, 2, []int64{0, math.MaxInt64, 0}},
		{5, 2, 2, []int64{math.MinInt64, 0, 0}},
		{5, 2, 0, []int64{5}},
		{2, 1, 12, []int64{2}},
		{5, 2, -1, nil},
		{5, 2, -1, []int64{0}},
		{5, 2, 13, nil},
		{5, 2, 13, zeros(14)},
		{5, 3, math.MaxInt64, nil},
		{5, 3, math.MinInt64, nil},
		{5, 1, 13, zeros(1)},
		{5, 1, 256, zeros(1)},
		{5, 1, 1 << 32, zeros(1)},
		{5, 1, math.MaxInt64, zeros(1)},
		{5, 1, math.MinInt64, zeros(1)},
		{5, 0, 0, nil},
		{5, 0, 0, []int64{1}},
		{5, 0, 2, nil},
		{5, -1, 2, []int64{1}},
		{5, 4, 1, []int64{1, 2, 3, 4}},
		{5, 4, 0, []int64{1}},
		{5, math.MaxInt64, 0, []int64{1}},
		{5, math.MinInt64, 0, []int64{1}},
	}
	for _, c := range bad {
		f, code := impl.PolyOfRow(c.p, c.d, c.n, c.row)
		wantNoPoly(t, fmt.Sprintf("PolyOfRow(%v)", c), f, code, impl.ErrRange)
	}
	for _, p := range noPrimes {
		for _, row := range [][]int64{{0}, {1}, nil, {p}} {
			f, code := impl.PolyOfRow(p, 1, 1, row)
			wantNoPoly(t, fmt.Sprintf("PolyOfRow(%d, 1, 1, %v)", p, row), f, code, impl.ErrRange)
		}
	}
}

// TestRowsLeadBack makes polynomials of rows and rows of polynomials, of all degrees and with Terms of
// other degrees.
func TestRowsLeadBack(t *testing.T) {
	r := rand.New(rand.NewSource(35))
	for _, p := range primes {
		for d := int64(1); d <= 3; d++ {
			f := dense(r, p, d, impl.MaxDegree)
			whole := built(p, d)
			for n := range int64(impl.MaxDegree + 1) {
				row, code := impl.RowOfPoly(f, n)
				wantNumbers(t, fmt.Sprintf("RowOfPoly(%v, %d)", f, n), row, code, rowByHand(f, n), impl.ErrNone)
				part, code := impl.PolyOfRow(p, d, n, row)
				wantPoly(t, fmt.Sprintf("PolyOfRow(%d, %d, %d, %v)", p, d, n, row), part, code, polyByHand(p, d, n, row))
				again, code := impl.RowOfPoly(part, n)
				wantNumbers(t, "RowOfPoly again", again, code, row, impl.ErrNone)
				whole = sum(t, whole, part, 1)
				g := randomForm(r, p, d, n)
				row, code = impl.RowOfPoly(g, n)
				back, other := impl.PolyOfRow(p, d, n, row)
				if code != impl.ErrNone || other != impl.ErrNone || !samePoly(back, g) {
					t.Fatalf("RowOfPoly(%v, %d) = %v, %d, and back: %v, %d", g, n, row, code, back, other)
				}
			}
			if !samePoly(whole, f) {
				t.Fatalf("the parts of %v make %v", f, whole)
			}
		}
	}
}

// TestBasesAreOrdered finds the rows of a basis in the order of their first numbers.
func TestBasesAreOrdered(t *testing.T) {
	for _, c := range generatorCases(t) {
		for n := range int64(impl.MaxSpace + 1) {
			basis, code := impl.InvariantBasis(c.g, n)
			if code != impl.ErrNone || !isReduced(rowsByHand(basis, n)) {
				t.Errorf("InvariantBasis(%v, %d) = %v, %d", c.g, n, basis, code)
			}
		}
	}
}
