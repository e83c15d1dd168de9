package tests

import (
	"fmt"
	"math"
	"slices"
	"testing"

	"loop.example/g01285/impl"
)

func TestParameterLimit(t *testing.T) {
	if impl.MaxBound != 12 {
		t.Errorf("limit %d", impl.MaxBound)
	}
}

// restCase is a list with its rest numbers of the degrees 0 to 12.
type restCase struct {
	p, d  int64
	texts string
	want  []int64
}

func restCases() []restCase {
	count := impl.MaxBound + 1
	return []restCase{
		{2, 1, "1x", begun(count, 1)},
		{13, 1, "5x3", begun(count, 1, 1, 1)},
		{2, 1, "1x12", append(row(12, 1), 0)},
		{5, 2, "1x2 1y2", begun(count, 1, 2, 1)},
		{5, 2, "1y2 1x2", begun(count, 1, 2, 1)},
		{5, 2, "3x2+1y2 1y2", begun(count, 1, 2, 1)},
		// Fewer polynomials than letters leave a rest in all degrees.
		{5, 2, "1x+1y", row(count, 1)},
		{5, 2, "1x2", append([]int64{1}, row(12, 2)...)},
		{3, 2, "1x12", []int64{1, 2, 3, 4, 5, 6, 7, 8, 9, 10, 11, 12, 12}},
		{7, 3, "1x", []int64{1, 2, 3, 4, 5, 6, 7, 8, 9, 10, 11, 12, 13}},
		{7, 3, "1z12", []int64{1, 3, 6, 10, 15, 21, 28, 36, 45, 55, 66, 78, 90}},
		// As many that are no parameters do so too.
		{5, 2, "1x2 1xy", append([]int64{1, 2}, row(11, 1)...)},
		{7, 3, "1xy 1xz 1yz", append([]int64{1}, row(12, 3)...)},
		{11, 3, "1x12 1y12 1z12", []int64{1, 3, 6, 10, 15, 21, 28, 36, 45, 55, 66, 78, 88}},
		// What is repeated, or a multiple, adds nothing.
		{7, 2, "1x2 1x2 2x2 1x2y", append([]int64{1}, row(12, 2)...)},
		{5, 2, "1x+1y 1x2+4y2", row(count, 1)},
		{2, 2, "1x+1y 1x2+1y2", row(count, 1)},
		{5, 2, "1x+1y 1x2+1y2", begun(count, 1, 1)},
		{3, 2, "1x+1y 1x2+1xy+1y2", begun(count, 1, 1)},
		{2, 2, "1x2+1xy+1y2 1x2y+1xy2", begun(count, 1, 2, 2, 1)},
		{7, 3, "1x 1y 1z", begun(count, 1)},
		{2, 3, "1x+1y+1z 1xy+1xz+1yz 1xyz", begun(count, 1, 2, 2, 1)},
		{5, 3, "1x4 1y4 1z4", begun(count, 1, 3, 6, 10, 12, 12, 10, 6, 3, 1)},
		{5, 3, "1x5 1y5 1z5", []int64{1, 3, 6, 10, 15, 18, 19, 18, 15, 10, 6, 3, 1}},
		// More than there are letters.
		{3, 1, "1x4 1x2 1x3", begun(count, 1, 1)},
		{5, 2, "1x3 1y3 1x2y", begun(count, 1, 2, 3, 1)},
		{5, 3, "1x2 1xy 1xz 1y2 1yz 1z2 1x2+1y2 1x3", begun(count, 1, 3)},
		{5, 3, "1x2 1xy 1xz 1x3 1x4 1x5 1x6 1x12", []int64{1, 3, 3, 4, 5, 6, 7, 8, 9, 10, 11, 12, 13}},
	}
}

func TestRestNumbers(t *testing.T) {
	for _, c := range restCases() {
		list := splitPolys(t, c.p, c.d, c.texts)
		for n := range int64(impl.MaxBound + 1) {
			number, code := impl.RestNumber(list, n)
			wantNumber(t, fmt.Sprintf("RestNumber(%s, %d)", c.texts, n), number, code, c.want[n], impl.ErrNone)
			numbers, code := impl.RestNumbers(list, n)
			wantNumbers(t, fmt.Sprintf("RestNumbers(%s, %d)", c.texts, n), numbers, code, c.want[:n+1], impl.ErrNone)
		}
	}
}

func TestAreParameters(t *testing.T) {
	cases := []struct {
		p, d  int64
		texts string
		want  bool
	}{
		{2, 1, "1x", true},
		{13, 1, "12x12", true},
		{5, 2, "1x2 1y2", true},
		{5, 2, "1x2 1xy", false},
		{5, 2, "1x 1x", false},
		{5, 2, "1x 3x", false},
		{5, 2, "1x 1x2", false},
		{5, 2, "1x 1xy", false},
		{5, 2, "1xy 1x+1y", true},
		{2, 2, "1x2+1y2 1xy", true},
		{5, 2, "1x2+1y2 1x2y2", true},
		// The squares of 2 and 3 are -1 modulo 5, and there are none modulo 7 or 3.
		{5, 2, "1x2+1y2 1x+2y", false},
		{7, 2, "1x2+1y2 1x+2y", true},
		{3, 2, "1x2+1y2 1x4+2y4", false},
		{3, 2, "1x2+1y2 1x3+1xy2", false},
		{3, 2, "1x2+1y2 1x3+2xy2", true},
		{7, 3, "1x 1y 1z", true},
		{7, 3, "1x 1y 1x+1y", false},
		{7, 3, "1x+1y 1y+1z 1x+1z", true},
		{2, 3, "1x+1y 1y+1z 1x+1z", false},
		{7, 3, "1xy 1xz 1yz", false},
		// Elementary polynomials always are some, power sums only modulo primes above 3.
		{2, 3, "1x+1y+1z 1xy+1xz+1yz 1xyz", true},
		{3, 3, "1x+1y+1z 1xy+1xz+1yz 1xyz", true},
		{5, 3, "1x+1y+1z 1x2+1y2+1z2 1x3+1y3+1z3", true},
		{3, 3, "1x+1y+1z 1x2+1y2+1z2 1x3+1y3+1z3", false},
		{2, 3, "1x+1y+1z 1x2+1y2+1z2 1x3+1y3+1z3", false},
		{2, 2, "1x2y+1xy2 1x2+1xy+1y2", true},
		// The degree that is asked is 12.
		{5, 2, "1x12 1y", true},
		{5, 2, "1x 1y12", true},
		{5, 2, "1x7 1y6", true},
		{5, 2, "1x7 1x6", false},
		{5, 2, "1x12 1x", false},
		{5, 3, "1x12 1y 1z", true},
		{5, 3, "1x5 1y5 1z4", true},
		{5, 3, "1x5 1y5 1x4", false},
		{5, 3, "1x4y 1y4z 1z4", false},
		{2, 3, "1x5+1y5 1y5+1z5 1xyz", true},
	}
	for _, c := range cases {
		yes, code := impl.AreParameters(splitPolys(t, c.p, c.d, c.texts))
		wantBool(t, fmt.Sprintf("AreParameters(%s) for %d", c.texts, c.p), yes, code, c.want)
	}
}

// wrongCounts are lists of other numbers of polynomials than there are letters, for 5; some of them have
// degrees that would be too great for as many.
func wrongCounts(t *testing.T) [][]impl.Poly {
	t.Helper()
	var lists [][]impl.Poly
	for _, c := range []struct {
		d     int64
		texts string
	}{
		{1, "1x2 1x2"}, {1, "1x 1x12"}, {1, "1x12 1x12"}, {1, "1x 1x 1x 1x 1x 1x 1x 1x"},
		{2, "1x+1y"}, {2, "1x2"}, {2, "1x12"}, {2, "1x+1y 1xy 1xy"}, {2, "1x12 1y12 1x12"}, {2, "1x 1y 1x 1y 1x 1y 1x 1y"},
		{3, "1x2+1y2+1z2"}, {3, "1x12"}, {3, "1x 1y"}, {3, "1x12 1y12"}, {3, "1x 1y 1z 1x"}, {3, "1x12 1y 1z 1z12"},
	} {
		lists = append(lists, splitPolys(t, 5, c.d, c.texts))
	}
	return lists
}

// TestAreParametersErrors finds lists that have not as many polynomials as letters before degrees that are
// too great, whether they are parameters or not.
func TestAreParametersErrors(t *testing.T) {
	for _, list := range wrongCounts(t) {
		yes, code := impl.AreParameters(list)
		wantZero(t, fmt.Sprintf("AreParameters(%v)", list), !yes, code, impl.ErrRange)
	}
	limits := []struct {
		d     int64
		texts string
	}{
		{2, "1x7 1y7"}, {2, "1x12 1y2"}, {2, "1x12 1y12"}, {2, "1x7 1x7"}, {2, "1x12 1x2"}, {2, "1x2 1x12"},
		{3, "1x5 1y5 1z5"}, {3, "1x12 1y2 1z"}, {3, "1x 1y2 1x12+1z12"}, {3, "1x12 1y12 1z12"}, {3, "1x5 1x5 1x5"},
	}
	for _, c := range limits {
		yes, code := impl.AreParameters(splitPolys(t, 5, c.d, c.texts))
		wantZero(t, fmt.Sprintf("AreParameters(%s)", c.texts), !yes, code, impl.ErrLimit)
	}
}

// boundCall is a function of a list and a degree of at least some; it reports whether the result is the
// zero value.
type boundCall struct {
	name  string
	least int64
	call  func(list []impl.Poly, n int64) (bool, int64)
}

func boundCalls() []boundCall {
	isZero := func(n int64, code int64) (bool, int64) { return n == 0, code }
	return []boundCall{
		{"RestNumber", 0, func(list []impl.Poly, n int64) (bool, int64) { return isZero(impl.RestNumber(list, n)) }},
		{"FreeNumber", 0, func(list []impl.Poly, n int64) (bool, int64) { return isZero(impl.FreeNumber(list, n)) }},
		{"RestNumbers", 0, func(list []impl.Poly, n int64) (bool, int64) {
			numbers, code := impl.RestNumbers(list, n)
			return len(numbers) == 0, code
		}},
		{"AreFree", 1, func(list []impl.Poly, n int64) (bool, int64) {
			yes, code := impl.AreFree(list, n)
			return !yes, code
		}},
	}
}

// TestBoundsOfLists asks at and outside of the ends of the ranges, for lists of all lengths.
func TestBoundsOfLists(t *testing.T) {
	for count := 1; count <= impl.MaxList; count++ {
		list := slices.Repeat([]impl.Poly{built(5, 2, term(1, 1))}, count)
		for _, c := range boundCalls() {
			for n, inside := range askedDegrees(impl.MaxBound) {
				zero, code := c.call(list, n)
				switch {
				case !inside || n < c.least:
					wantZero(t, asked(c.name, list, n), zero, code, impl.ErrRange)
				case code != impl.ErrNone:
					t.Errorf("%s: code %d", asked(c.name, list, n), code)
				}
			}
		}
	}
}

// parameterListCalls are all functions of a list alone, or with a degree or a polynomial of any kind.
func parameterListCalls(t *testing.T) map[string]func(list []impl.Poly) (bool, int64) {
	calls := map[string]func(list []impl.Poly) (bool, int64){
		"AreParameters": func(list []impl.Poly) (bool, int64) {
			yes, code := impl.AreParameters(list)
			return !yes, code
		},
	}
	for _, c := range boundCalls() {
		for n := range askedDegrees(impl.MaxBound) {
			calls[fmt.Sprint(c.name, " ", n)] = func(list []impl.Poly) (bool, int64) { return c.call(list, n) }
		}
	}
	for _, text := range []string{"0", "1", "1x", "1x+1x2", "1y12"} {
		f := parsed(t, 5, 2, text)
		calls["IsMultiple "+text] = func(list []impl.Poly) (bool, int64) {
			yes, code := impl.IsMultiple(list, f)
			return !yes, code
		}
	}
	return calls
}

func TestParameterListErrors(t *testing.T) {
	wantNoListsRefused(t, parameterListCalls(t))
	wantEmptyRefused(t, parameterListCalls(t))
}

func TestIsMultiple(t *testing.T) {
	cases := []struct {
		p, d     int64
		texts, f string
		want     bool
	}{
		{5, 2, "1x2 1y2", "1x2y+3y3", true},
		{5, 2, "1x2 1y2", "1xy", false},
		{5, 2, "1x2 1y2", "1x2+1xy", false},
		{5, 2, "1x2 1y2", "2x2+3y2", true},
		{5, 2, "1x2 1y2", "1x", false},
		{5, 2, "1x2 1y2", "1x6y6", true},
		{5, 2, "1x+1y", "1x2+4y2", true},
		{5, 2, "1x+1y", "1x2+1y2", false},
		{2, 2, "1x+1y", "1x2+1y2", true},
		{5, 2, "1x+1y", "1x12+4y12", true},
		{5, 2, "1x+1y", "1x12+1y12", false},
		{5, 2, "1x+1y 1xy", "1x2", true},
		{5, 2, "1x+1y 1xy", "1x", false},
		{5, 2, "1x2+1xy 1xy+1y2", "1x3+1y3", true},
		{5, 2, "1x2+1xy 1xy+1y2", "1x3", false},
		// 0 is in each space, and no other constant is in any.
		{5, 2, "1x2 1y2", "0", true},
		{5, 2, "1x12", "0", true},
		{2, 1, "1x", "0", true},
		{2, 1, "1x", "1", false},
		{5, 2, "1x 1y", "4", false},
		{5, 2, "1x12", "3", false},
		{5, 2, "1x12", "3x12", true},
		{5, 2, "1x12", "3x12+1x11y", false},
		{5, 2, "1x12", "1x11", false},
		{5, 2, "1x2 1x2 2x2", "1x2", true},
		{5, 2, "1x2 1x2 2x2", "1y2", false},
		{13, 1, "5x4", "7x12", true},
		{13, 1, "5x4", "7x3", false},
		{7, 3, "1x 1y", "1z12", false},
		{7, 3, "1x 1y", "1xz11", true},
		{7, 3, "1xy 1xz 1yz", "1x4y4z4", true},
		{7, 3, "1xy 1xz 1yz", "1x12+1x4y4z4", false},
		{7, 3, "1x 1y 1z 1x 1y 1z 1x 1y", "1x4y4z4+1z12", true},
		{3, 3, "1x2 1y2 1z2 1xy 1xz 1yz 1x3 1x+1y", "1z", false},
		{3, 3, "1x2 1y2 1z2 1xy 1xz 1yz 1x3 1x+1y", "2x+2y", true},
	}
	for _, c := range cases {
		yes, code := impl.IsMultiple(splitPolys(t, c.p, c.d, c.texts), parsed(t, c.p, c.d, c.f))
		wantBool(t, fmt.Sprintf("IsMultiple(%s, %s)", c.texts, c.f), yes, code, c.want)
	}
}

func TestIsMultipleErrors(t *testing.T) {
	wantUnfitRefused(t, "IsMultiple", impl.IsMultiple)
}

// freeCase is a list that is free up to a degree, and not up to the next one; MaxBound stands for one that
// is free up to all degrees that can be asked.
type freeCase struct {
	p, d  int64
	texts string
	last  int64
}

func freeCases() []freeCase {
	return []freeCase{
		{2, 1, "1x", 12},
		{2, 1, "1x12", 12},
		{5, 2, "1x2 1y2", 12},
		{5, 2, "1x+1y 1xy", 12},
		{5, 2, "1x 1xy", 12},
		{7, 3, "1x 1y 1z", 12},
		{2, 3, "1x+1y+1z 1xy+1xz+1yz 1xyz", 12},
		{5, 2, "1x2 1xy 1y2", 3},
		{5, 2, "1x 1x", 0},
		{5, 2, "1x 1y 3x", 0},
		{5, 2, "1x2 2x2", 1},
		{5, 2, "1x 1x2", 1},
		{5, 2, "1x3 1x2", 5},
		{5, 2, "1x6 1y6 1x3y3", 11},
		{5, 2, "1x12 1x12", 11},
		{5, 2, "1x7 1x7", 6},
		{5, 2, "1x5 1x4", 12},
		{5, 2, "1x4 1x3", 11},
		{2, 2, "1x+1y 1x2+1y2", 1},
		{5, 2, "1x+1y 1x2+1y2", 12},
		{5, 2, "1x+1y 1x2+1y2 1xy", 1},
		{5, 2, "1x3 1y3 1x2y", 8},
		// The relation of these has the degree 16.
		{5, 2, "1x4 1y4 1x3y", 12},
		{3, 3, "1x+1y+1z 1x2+1y2+1z2 1x3+1y3+1z3", 2},
		{3, 1, "1x 1x 1x 1x 1x 1x 1x 1x", 0},
		{3, 2, "1x2 1xy 1y2 1x3 1x2y 1xy2 1y3 1x4", 3},
		{3, 3, "1x12 1y12 1z12 1x6y6 1x6z6 1y6z6 1x3y9 1x4y4z4", 12},
	}
}

func TestAreFree(t *testing.T) {
	for _, c := range freeCases() {
		list := splitPolys(t, c.p, c.d, c.texts)
		for n := int64(1); n <= impl.MaxBound; n++ {
			yes, code := impl.AreFree(list, n)
			wantBool(t, fmt.Sprintf("AreFree(%s, %d)", c.texts, n), yes, code, n <= c.last)
		}
	}
}

func TestFreeNumber(t *testing.T) {
	cases := []struct {
		p, d  int64
		texts string
		want  []int64
	}{
		{2, 1, "1x", row(13, 1)},
		{2, 1, "1x5", []int64{1, 0, 0, 0, 0, 1, 0, 0, 0, 0, 1, 0, 0}},
		{2, 1, "1x12", append(begun(12, 1), 1)},
		{5, 2, "1x2 1y2", []int64{1, 0, 2, 0, 3, 0, 4, 0, 5, 0, 6, 0, 7}},
		{5, 2, "1x+1y 1xy", []int64{1, 1, 2, 2, 3, 3, 4, 4, 5, 5, 6, 6, 7}},
		// Repeated polynomials, and such that are not independent, count at each place of their own.
		{5, 2, "1x 3x", []int64{1, 2, 3, 4, 5, 6, 7, 8, 9, 10, 11, 12, 13}},
		{5, 2, "1x7 1y7 1x12", []int64{1, 0, 0, 0, 0, 0, 0, 2, 0, 0, 0, 0, 1}},
		{7, 3, "1x3 1y2 1z", []int64{1, 1, 2, 3, 4, 5, 7, 8, 10, 12, 14, 16, 19}},
		{11, 2, "1x 1x 1x 1x 1x 1x 1x 1x", []int64{1, 8, 36, 120, 330, 792, 1716, 3432, 6435, 11440, 19448, 31824, 50388}},
	}
	for _, c := range cases {
		list := splitPolys(t, c.p, c.d, c.texts)
		for n := range int64(impl.MaxBound + 1) {
			number, code := impl.FreeNumber(list, n)
			wantNumber(t, fmt.Sprintf("FreeNumber(%s, %d)", c.texts, n), number, code, c.want[n], impl.ErrNone)
		}
	}
}

func TestSecondaryNumber(t *testing.T) {
	cases := []struct {
		g     impl.Group
		texts string
		want  int64
	}{
		{named(t, "point", 2), "1x12", 12},
		{named(t, "sign", 5), "1x12", 6},
		{named(t, "turn", 5), "1x+1y+1z 1x2+1y2+1z2 1x3+1y3+1z3", 2},
		{named(t, "cube", 7), "1x2+1y2+1z2 1x4+1y4+1z4 1x2y2z2", 1},
		// b is greater than MaxSpace, and the degree that is asked at most MaxBound.
		{named(t, "square", 5), "1x4+1y4 1x8+1y8", 4},
		{multiplesOf(7, 2, 3), "1x6 1y6", 6},
		{groupWith(5, 3, unitOf(3)), "1x5 1y5 1z4", 100},
		{groupWith(5, 2, unitOf(2)), "1x7 1y6", 42},
		{groupWith(5, 2, unitOf(2)), "1x12 1y", 12},
		{diagonalGroup(13, 2, 1), "1x12 1y", 1},
	}
	for _, c := range cases {
		number, code := impl.SecondaryNumber(c.g, splitPolys(t, c.g.Prime, c.g.Size, c.texts))
		wantNumber(t, fmt.Sprintf("SecondaryNumber(%v, %s)", c.g, c.texts), number, code, c.want, impl.ErrNone)
	}
}

// TestSecondaries takes groups with parameters the secondary invariants of which are known: they stand in the
// order of their degrees, and of their first monomials.
func TestSecondaries(t *testing.T) {
	for _, c := range parameterCases(t) {
		list := splitPolys(t, c.g.Prime, c.g.Size, c.texts)
		want := splitPolys(t, c.g.Prime, c.g.Size, c.secondaries)
		what := fmt.Sprintf("(%v, %s)", c.g, c.texts)
		number, code := impl.SecondaryNumber(c.g, list)
		wantNumber(t, "SecondaryNumber"+what, number, code, int64(len(want)), impl.ErrNone)
		degrees, code := impl.SecondaryDegrees(c.g, list)
		wantNumbers(t, "SecondaryDegrees"+what, degrees, code, c.degrees, impl.ErrNone)
		all, code := impl.AllSecondaries(c.g, list)
		wantPolys(t, "AllSecondaries"+what, all, code, want, impl.ErrNone)
		// Behind b there are none.
		for n := range int64(impl.MaxSpace + 1) {
			var ofDegree []impl.Poly
			for _, f := range want {
				if topDegree(f) == n {
					ofDegree = append(ofDegree, f)
				}
			}
			polys, code := impl.SecondaryInvariants(c.g, list, n)
			wantPolys(t, fmt.Sprint("SecondaryInvariants ", n, what), polys, code, ofDegree, impl.ErrNone)
		}
	}
}

// TestSecondaryInvariantsOfGreatDegrees asks for those of parameters the b of which is greater than
// MaxSpace, and of degrees below those of the parameters.
func TestSecondaryInvariantsOfGreatDegrees(t *testing.T) {
	cases := []struct {
		g     impl.Group
		texts string
		n     int64
		want  string
	}{
		{named(t, "sign", 5), "1x12", 6, "1x6"},
		{named(t, "sign", 5), "1x12", 5, ""},
		{named(t, "sign", 5), "1x12", 0, "1"},
		{multiplesOf(7, 2, 3), "1x6 1y6", 6, "1x5y 1x4y2 1x3y3 1x2y4 1xy5"},
		{multiplesOf(7, 2, 3), "1x6 1y6", 5, ""},
		{named(t, "swap", 5), "1x12+1y12 1x+1y", 3, ""},
		{named(t, "swap", 5), "1x12+1y12 1x+1y", 4, "1x2y2"},
		{named(t, "cube", 7), "1x2+1y2+1z2 1x4+1y4+1z4 1x2y2z2", 6, ""},
		{named(t, "square", 5), "1x4+1y4 1x8+1y8", 2, "1x2+1y2"},
		{named(t, "square", 5), "1x4+1y4 1x8+1y8", 4, "1x2y2"},
		{named(t, "square", 5), "1x4+1y4 1x8+1y8", 6, "1x4y2+1x2y4"},
		{groupWith(5, 2, unitOf(2)), "1x12 1y", 6, "1x6"},
	}
	for _, c := range cases {
		list := splitPolys(t, c.g.Prime, c.g.Size, c.texts)
		polys, code := impl.SecondaryInvariants(c.g, list, c.n)
		wantTexts(t, fmt.Sprintf("SecondaryInvariants(%v, %s, %d)", c.g, c.texts, c.n), polys, code, c.want)
	}
}

// secondaryCall is a function of a group and parameters; all tells whether it asks for all degrees.
type secondaryCall struct {
	all  bool
	call func(g impl.Group, list []impl.Poly) (bool, int64)
}

func secondaryCalls() map[string]secondaryCall {
	calls := map[string]secondaryCall{
		"SecondaryNumber": {false, func(g impl.Group, list []impl.Poly) (bool, int64) {
			number, code := impl.SecondaryNumber(g, list)
			return number == 0, code
		}},
		"SecondaryDegrees": {true, func(g impl.Group, list []impl.Poly) (bool, int64) {
			numbers, code := impl.SecondaryDegrees(g, list)
			return len(numbers) == 0, code
		}},
		"AllSecondaries": {true, func(g impl.Group, list []impl.Poly) (bool, int64) {
			polys, code := impl.AllSecondaries(g, list)
			return len(polys) == 0, code
		}},
	}
	for n := range int64(impl.MaxSpace + 1) {
		calls[fmt.Sprint("SecondaryInvariants ", n)] = secondaryCall{false, func(g impl.Group, list []impl.Poly) (bool, int64) {
			polys, code := impl.SecondaryInvariants(g, list, n)
			return len(polys) == 0, code
		}}
	}
	return calls
}

// secondaryError is a group with polynomials that are refused by all functions, or by those alone that ask
// for all degrees.
type secondaryError struct {
	g           impl.Group
	p, d        int64
	texts       string
	want, ofAll int64
}

func secondaryErrors(t *testing.T) []secondaryError {
	swap, unit := named(t, "swap", 5), groupWith(5, 2, unitOf(2))
	state, limit, ranged := int64(impl.ErrState), int64(impl.ErrLimit), int64(impl.ErrRange)
	return []secondaryError{
		// Modular groups, whatever the list is.
		{named(t, "swap", 2), 2, 2, "1x+1y 1xy", state, state},
		{named(t, "swap", 2), 2, 2, "1x 1y", state, state},
		{named(t, "swap", 2), 2, 2, "1x+1y 1x+1y", state, state},
		{named(t, "swap", 2), 2, 2, "1x12+1y12 1x2y2", state, state},
		{named(t, "triangle", 3), 3, 2, "1x2+1xy+1y2 1x2y+1xy2", state, state},
		{named(t, "symmetric", 3), 3, 3, "1x+1y+1z 1xy+1xz+1yz 1xyz", state, state},
		{shears(5), 5, 2, "1x 1x4y+4y5", state, state},
		{greatLinear(), 3, 2, "1x6+1x4y2+1x2y4+1y6 1x6y2+1x4y4+1x2y6", state, state},
		// One of the list is not invariant, whether they are parameters or not.
		{swap, 5, 2, "1x2 1y2", state, state},
		{swap, 5, 2, "1x+1y 1x2", state, state},
		{swap, 5, 2, "1x2 1x+1y", state, state},
		{swap, 5, 2, "1x+4y 1xy", state, state},
		{swap, 5, 2, "1x 1x", state, state},
		{swap, 5, 2, "1x12 1y12", state, state},
		{swap, 5, 2, "1x12+1y12 1x2", state, state},
		{named(t, "sign", 5), 5, 1, "1x11", state, state},
		{named(t, "cube", 5), 5, 3, "1x2+1y2+1z2 1x4+1y4+1z4 1xyz", state, state},
		// They are no parameters, also where b is greater than MaxSpace.
		{swap, 5, 2, "1x+1y 1x+1y", state, state},
		{swap, 5, 2, "1x+1y 1x2y+1xy2", state, state},
		{swap, 5, 2, "1x2y2 1x8y+1xy8", state, state},
		{unit, 5, 2, "1x 1x12", state, state},
		{unit, 5, 2, "1x4 1x5", state, state},
		{named(t, "turn", 7), 7, 3, "1x+1y+1z 1xy+1xz+1yz 1x2+1y2+1z2", state, state},
		// The degree that is asked is 13 and more, whether they are parameters or not.
		{swap, 5, 2, "1x6+1y6 1x4y4", limit, limit},
		{swap, 5, 2, "1x12+1y12 1xy", limit, limit},
		{swap, 5, 2, "1x7+1y7 1x7+1y7", limit, limit},
		{swap, 5, 2, "1x6y6 1x12+1y12", limit, limit},
		{unit, 5, 2, "1x12 1x12", limit, limit},
		{named(t, "square", 3), 3, 2, "1x2y2 1x12+1y12", limit, limit},
		{dihedral24(), 13, 2, "1xy 1x12+1y12", limit, limit},
		{groupWith(5, 3, unitOf(3)), 5, 3, "1x5 1y5 1z5", limit, limit},
		{groupWith(5, 3, unitOf(3)), 5, 3, "1x5 1x5 1x5", limit, limit},
		// b is 7 and more.
		{named(t, "sign", 5), 5, 1, "1x8", impl.ErrNone, limit},
		{named(t, "sign", 5), 5, 1, "1x12", impl.ErrNone, limit},
		{unit, 5, 2, "1x4 1y5", impl.ErrNone, limit},
		{unit, 5, 2, "1x12 1y", impl.ErrNone, limit},
		{groupWith(5, 3, unitOf(3)), 5, 3, "1x4 1y3 1z3", impl.ErrNone, limit},
		{named(t, "cube", 7), 7, 3, "1x2+1y2+1z2 1x4+1y4+1z4 1x2y2z2", impl.ErrNone, limit},
		// Primes, or sizes and letters, are different.
		{swap, 7, 2, "1x+1y 1xy", ranged, ranged},
		{swap, 7, 2, "1x7+1y7 1x7+1y7", ranged, ranged},
		{swap, 5, 1, "1x", ranged, ranged},
		{swap, 5, 3, "1x 1y 1z", ranged, ranged},
		{named(t, "swap", 2), 5, 2, "1x+1y 1xy", ranged, ranged},
		{named(t, "turn", 3), 3, 2, "1x 1y", ranged, ranged},
		{named(t, "point", 2), 3, 1, "1x", ranged, ranged},
		{groupWith(5, 3, unitOf(3)), 5, 2, "1x 1y", ranged, ranged},
	}
}

func TestSecondaryErrors(t *testing.T) {
	for _, c := range secondaryErrors(t) {
		list := splitPolys(t, c.p, c.d, c.texts)
		for name, call := range secondaryCalls() {
			want := c.want
			if call.all {
				want = c.ofAll
			}
			zero, code := call.call(c.g, list)
			what := fmt.Sprintf("%s(%v, %s)", name, c.g, c.texts)
			if want == impl.ErrNone {
				wantNumber(t, what+": code", code, impl.ErrNone, impl.ErrNone, impl.ErrNone)
				continue
			}
			wantZero(t, what, zero, code, want)
		}
	}
}

// TestSecondaryListErrors gives what is no group, what is no list, and lists of other numbers of polynomials
// than there are letters, also to groups that are modular or do not leave the list.
func TestSecondaryListErrors(t *testing.T) {
	groups := []impl.Group{
		named(t, "swap", 5), named(t, "sign", 5), named(t, "turn", 5), named(t, "swap", 2), named(t, "minus", 5),
		shears(5), groupWith(5, 1, unitOf(1)), groupWith(5, 2, unitOf(2)), groupWith(5, 3, unitOf(3)), groupWith(5, 3, unipotents(5)...),
	}
	good := splitPolys(t, 5, 2, "1x+1y 1xy")
	for name, call := range secondaryCalls() {
		for of, g := range noGroups() {
			for _, list := range [][]impl.Poly{good, nil, good[:1], {{}}, {built(5, 2), {}}, slices.Repeat(good, 5)} {
				zero, code := call.call(g, list)
				wantZero(t, fmt.Sprintf("%s(%s, %v)", name, of, list), zero, code, impl.ErrInvalid)
			}
		}
		for i, g := range groups {
			calls := map[string]func(list []impl.Poly) (bool, int64){
				fmt.Sprint(name, " of the group ", i): func(list []impl.Poly) (bool, int64) { return call.call(g, list) },
			}
			wantNoListsRefused(t, calls)
			wantEmptyRefused(t, calls)
			for _, list := range wrongCounts(t) {
				zero, code := call.call(g, list)
				wantZero(t, fmt.Sprintf("%s(%v, %v)", name, g, list), zero, code, impl.ErrRange)
			}
		}
	}
}

// TestSecondaryInvariantsOutside asks for degrees at and outside of the ends of the range: these are found
// before groups that are modular, and all that comes behind.
func TestSecondaryInvariantsOutside(t *testing.T) {
	for n, inside := range askedDegrees(impl.MaxSpace) {
		if inside {
			continue
		}
		for _, c := range append(secondaryErrors(t), secondaryError{named(t, "swap", 5), 5, 2, "1x+1y 1xy", 0, 0}) {
			polys, code := impl.SecondaryInvariants(c.g, splitPolys(t, c.p, c.d, c.texts), n)
			wantPolys(t, fmt.Sprintf("SecondaryInvariants(%v, %s, %d)", c.g, c.texts, n), polys, code, nil, impl.ErrRange)
		}
		for _, list := range [][]impl.Poly{{{}}, {built(5, 2), {}}, {{}, built(7, 2)}} {
			polys, code := impl.SecondaryInvariants(named(t, "swap", 5), list, n)
			wantPolys(t, "SecondaryInvariants of no polynomial", polys, code, nil, impl.ErrInvalid)
		}
		polys, code := impl.SecondaryInvariants(groupWith(5, 2), splitPolys(t, 5, 2, "1x 1y"), n)
		wantPolys(t, "SecondaryInvariants of no group", polys, code, nil, impl.ErrInvalid)
	}
}

func TestCoinvariantNumber(t *testing.T) {
	cases := []struct {
		g    impl.Group
		want []int64
	}{
		{named(t, "point", 2), begun(7, 1)},
		{named(t, "sign", 3), begun(7, 1, 1)},
		{named(t, "minus", 3), begun(7, 1, 2)},
		{named(t, "minus", 2), begun(7, 1)},
		{named(t, "swap", 5), begun(7, 1, 1)},
		{named(t, "swap", 2), begun(7, 1, 1)},
		{named(t, "square", 3), begun(7, 1, 2, 2, 2, 1)},
		{named(t, "triangle", 5), begun(7, 1, 2, 2, 1)},
		{named(t, "turn", 7), begun(7, 1, 2, 2)},
		{named(t, "symmetric", 5), begun(7, 1, 2, 2, 1)},
		{named(t, "symmetric", 3), begun(7, 1, 2, 2, 1)},
		{named(t, "cube", 7), []int64{1, 3, 5, 7, 8, 8, 7}},
		{groupWith(5, 1, unitOf(1)), begun(7, 1)},
		{groupWith(5, 3, unitOf(3)), begun(7, 1)},
		// There are no invariants of the degrees 1 to 6, or only of 6, or of 5.
		{powersOf(13, 2), row(7, 1)},
		{powersOf(7, 3), append(row(6, 1), 0)},
		{multiplesOf(13, 3, 2), []int64{1, 3, 6, 10, 15, 21, 28}},
		{multiplesOf(7, 2, 3), []int64{1, 2, 3, 4, 5, 6, 0}},
		// There are more than MaxList polynomials in one basis, and more than that would generate them.
		{multiplesOf(7, 3, 2), begun(7, 1, 3, 6)},
		{multiplesOf(5, 3, 2), begun(7, 1, 3, 6, 10)},
		{diagonalGroup(7, 3, 3, 3), begun(7, 1, 3, 6, 10, 15, 21)},
		{shears(5), begun(7, 1, 1, 1, 1, 1)},
		{shears(13), row(7, 1)},
		{greatLinear(), []int64{1, 2, 3, 4, 5, 6, 6}},
	}
	for _, c := range cases {
		for n := range int64(impl.MaxSpace + 1) {
			number, code := impl.CoinvariantNumber(c.g, n)
			wantNumber(t, fmt.Sprintf("CoinvariantNumber(%v, %d)", c.g, n), number, code, c.want[n], impl.ErrNone)
		}
	}
}

func TestCoinvariantNumberErrors(t *testing.T) {
	for n, inside := range askedDegrees(impl.MaxSpace) {
		for why, g := range noGroups() {
			number, code := impl.CoinvariantNumber(g, n)
			wantNumber(t, fmt.Sprintf("CoinvariantNumber(%s, %d)", why, n), number, code, 0, impl.ErrInvalid)
		}
		if inside {
			continue
		}
		for _, g := range []impl.Group{named(t, "swap", 5), shears(5), groupWith(5, 2, unitOf(2)), multiplesOf(13, 3, 2)} {
			number, code := impl.CoinvariantNumber(g, n)
			wantNumber(t, fmt.Sprintf("CoinvariantNumber(%v, %d)", g, n), number, code, 0, impl.ErrRange)
		}
	}
	for _, n := range []int64{math.MinInt64, math.MaxInt64} {
		number, code := impl.CoinvariantNumber(named(t, "swap", 5), n)
		wantNumber(t, fmt.Sprintf("CoinvariantNumber(.., %d)", n), number, code, 0, impl.ErrRange)
	}
}
