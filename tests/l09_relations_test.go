package tests

import (
	"fmt"
	"math"
	"slices"
	"testing"

	"loop.example/g01285/impl"
)

func TestRelationLimit(t *testing.T) {
	if impl.MaxPoints != 400 {
		t.Errorf("limit %d", impl.MaxPoints)
	}
}

// relationCase is a list with its relations of a degree.
type relationCase struct {
	p, d  int64
	texts string
	n     int64
	want  [][]int64
}

func relationCases() []relationCase {
	return []relationCase{
		{5, 2, "1x2 1xy 1y2", 4, [][]int64{{0, 0, 1, 4, 0, 0}}},
		{2, 2, "1x2 1xy 1y2", 4, [][]int64{{0, 0, 1, 1, 0, 0}}},
		{5, 2, "1x2 1y2 1xy", 4, [][]int64{{0, 1, 0, 0, 0, 4}}},
		{5, 2, "1xy 1x2 1y2", 4, [][]int64{{1, 0, 0, 0, 4, 0}}},
		{5, 2, "2x2 1xy 1y2", 4, [][]int64{{0, 0, 1, 3, 0, 0}}},
		{5, 2, "1x2 1xy 1y2", 2, nil},
		// The products of 6 are those of three exponents with the sum 3: x2 x2 y2 is x2 (x y)2, and so on.
		{5, 2, "1x2 1xy 1y2", 6, [][]int64{{0, 0, 1, 4, 0, 0, 0, 0, 0, 0}, {0, 0, 0, 0, 1, 0, 4, 0, 0, 0}, {0, 0, 0, 0, 0, 1, 0, 4, 0, 0}}},
		// The only product of the degree 0 is 1; of some degrees there are no products.
		{5, 2, "1x2 1xy 1y2", 0, nil},
		{5, 2, "1x2 1xy 1y2", 1, nil},
		{5, 2, "1x2 1xy 1y2", 11, nil},
		{5, 1, "1x12 1x12", 11, nil},
		{5, 1, "1x12 1x12", 0, nil},
		{5, 1, "1x12 1x12", 12, [][]int64{{1, 4}}},
		// One polynomial, and free ones, have none.
		{2, 1, "1x", 12, nil},
		{13, 3, "1x+1y+1z", 12, nil},
		{13, 2, "1x+1y 1xy", 12, nil},
		{13, 3, "1x 1y 1z", 5, nil},
		// Equal polynomials, and multiples.
		{5, 2, "1x 1x", 1, [][]int64{{1, 4}}},
		{5, 2, "1x 3x", 1, [][]int64{{1, 3}}},
		{5, 2, "3x 1x", 1, [][]int64{{1, 2}}},
		{5, 2, "1x 1x", 2, [][]int64{{1, 0, 4}, {0, 1, 4}}},
		{5, 2, "1x 1y 1x", 1, [][]int64{{1, 0, 4}}},
		{5, 2, "1y 1x 1x", 1, [][]int64{{0, 1, 4}}},
		{7, 2, "1x 1y 1x+1y", 1, [][]int64{{1, 1, 6}}},
		{7, 2, "1x+1y 1x+6y 1x 1y", 1, [][]int64{{1, 0, 6, 6}, {0, 1, 6, 1}}},
		{2, 1, "1x 1x 1x 1x 1x 1x 1x 1x", 1, [][]int64{
			{1, 0, 0, 0, 0, 0, 0, 1}, {0, 1, 0, 0, 0, 0, 0, 1}, {0, 0, 1, 0, 0, 0, 0, 1}, {0, 0, 0, 1, 0, 0, 0, 1},
			{0, 0, 0, 0, 1, 0, 0, 1}, {0, 0, 0, 0, 0, 1, 0, 1}, {0, 0, 0, 0, 0, 0, 1, 1},
		}},
		// The square of the sum is the sum of the squares and twice the elementary polynomial.
		{3, 3, "1x+1y+1z 1xy+1xz+1yz 1x2+1y2+1z2", 2, [][]int64{{1, 1, 2}}},
		{5, 3, "1x+1y+1z 1xy+1xz+1yz 1x2+1y2+1z2", 2, [][]int64{{1, 3, 4}}},
		{2, 3, "1x+1y+1z 1xy+1xz+1yz 1x2+1y2+1z2", 2, [][]int64{{1, 0, 1}}},
		{2, 2, "1x+1y 1x2+1y2", 2, [][]int64{{1, 1}}},
		{3, 2, "1x+1y 1x2+1y2", 2, nil},
		// Powers of one letter.
		{5, 1, "1x2 1x3", 6, [][]int64{{1, 4}}},
		{5, 1, "1x2 1x3", 5, nil},
		{5, 1, "1x2 1x3", 12, [][]int64{{1, 0, 4}, {0, 1, 4}}},
		{5, 1, "2x2 1x3", 6, [][]int64{{1, 2}}},
		{13, 1, "1x4 1x5 1x6", 10, [][]int64{{1, 12}}},
		{7, 2, "1x6 1y6 1x3y3", 12, [][]int64{{0, 1, 0, 0, 0, 6}}},
		{7, 2, "1x3 1x2y 1xy2 1y3", 6, [][]int64{
			{0, 0, 1, 0, 6, 0, 0, 0, 0, 0}, {0, 0, 0, 1, 0, 6, 0, 0, 0, 0}, {0, 0, 0, 0, 0, 0, 1, 6, 0, 0},
		}},
		// x3 y + x y3, x2 y2 and x4 + y4 of the degree 4.
		{11, 2, "1xy 1x2+1y2 1x3y+1xy3 1x4+1y4", 4, [][]int64{{1, 0, 5, 0, 6}, {0, 1, 0, 10, 0}}},
	}
}

func TestRelationsOf(t *testing.T) {
	for _, c := range relationCases() {
		list := splitPolys(t, c.p, c.d, c.texts)
		rows, code := impl.RelationsOf(list, c.n)
		wantLists(t, fmt.Sprintf("RelationsOf(%s, %d) for %d", c.texts, c.n, c.p), rows, code, c.want, impl.ErrNone)
		number, code := impl.CountRelations(list, c.n)
		wantNumber(t, fmt.Sprintf("CountRelations(%s, %d) for %d", c.texts, c.n, c.p), number, code, int64(len(c.want)), impl.ErrNone)
		for _, relation := range c.want {
			yes, code := impl.IsRelation(list, c.n, relation)
			wantBool(t, fmt.Sprintf("IsRelation(%s, %d, %v) for %d", c.texts, c.n, relation, c.p), yes, code, true)
		}
	}
}

// TestRelationsOfManyProducts takes more products than a list of chapter 1 may have rows or numbers.
func TestRelationsOfManyProducts(t *testing.T) {
	cases := []struct {
		p, d           int64
		texts          string
		n              int64
		products, want int
	}{
		{13, 3, "1x 1y 1z 1x+1y 1x+1z 1y+1z 1x+1y+1z 1x+2y+3z", 5, 792, 771},
		{5, 1, "1x 1x 1x 1x 1x 1x 1x 1x", 6, 1716, 1715},
		{2, 2, "1x2 1xy 1y2 1x2+1xy 1x2+1y2 1xy+1y2 1x2+1xy+1y2 1x2", 8, 330, 321},
	}
	for _, c := range cases {
		list := splitPolys(t, c.p, c.d, c.texts)
		rows := relations(t, list, c.n)
		if len(rows) != c.want || !isReduced(rows) {
			t.Errorf("RelationsOf(%s, %d): %d rows instead of %d, or they are not reduced", c.texts, c.n, len(rows), c.want)
		}
		for i, row := range rows {
			if len(row) != c.products {
				t.Fatalf("RelationsOf(%s, %d): %d numbers instead of %d", c.texts, c.n, len(row), c.products)
			}
			if i%50 == 0 && !isRelation(t, list, c.n, row) {
				t.Errorf("%s: %v is no relation", c.texts, row)
			}
		}
	}
}

func TestCountRelations(t *testing.T) {
	cases := []struct {
		p, d  int64
		texts string
		want  []int64
	}{
		{2, 1, "1x", zeros(13)},
		{5, 2, "1x2 1xy 1y2", []int64{0, 0, 0, 0, 1, 0, 3, 0, 6, 0, 10, 0, 15}},
		{5, 2, "1x 1x", []int64{0, 1, 2, 3, 4, 5, 6, 7, 8, 9, 10, 11, 12}},
		{5, 2, "1x+1y 1xy", zeros(13)},
		{5, 1, "1x5 1x5 1x6", []int64{0, 0, 0, 0, 0, 1, 0, 0, 0, 0, 2, 1, 0}},
		{7, 2, "1x6 1y6 1x3y3", begun(13, 0, 0, 0, 0, 0, 0, 0, 0, 0, 0, 0, 0, 1)},
		// As many as there are products, but for the monomials.
		{11, 1, "1x 1x 1x 1x 1x 1x 1x 1x", []int64{0, 7, 35, 119, 329, 791, 1715, 3431, 6434, 11439, 19447, 31823, 50387}},
		{13, 3, "1x 1y 1z 1x+1y 1x+1z 1y+1z 1x+1y+1z 1x+2y+3z", []int64{
			0, 5, 30, 110, 315, 771, 1688, 3396, 6390, 11385, 19382, 31746, 50297,
		}},
	}
	for _, c := range cases {
		list := splitPolys(t, c.p, c.d, c.texts)
		for n := range int64(impl.MaxDegree + 1) {
			number, code := impl.CountRelations(list, n)
			wantNumber(t, fmt.Sprintf("CountRelations(%s, %d)", c.texts, n), number, code, c.want[n], impl.ErrNone)
		}
	}
}

// newCase is a list with its new numbers of relations of the degrees 0 to 12.
type newCase struct {
	p, d  int64
	texts string
	want  map[int64]int64
}

func newCases() []newCase {
	return []newCase{
		{2, 1, "1x", nil},
		{5, 2, "1x 1y", nil},
		{5, 2, "1x+1y 1xy", nil},
		{13, 1, "1x12", nil},
		{5, 2, "1x2 1xy 1y2", map[int64]int64{4: 1}},
		{2, 2, "1y2 1xy 1x2", map[int64]int64{4: 1}},
		{5, 2, "1x 1x", map[int64]int64{1: 1}},
		{5, 2, "1x 1y 1x+1y", map[int64]int64{1: 1}},
		{5, 1, "1x 1x2", map[int64]int64{2: 1}},
		{5, 1, "1x2 1x", map[int64]int64{2: 1}},
		{5, 1, "1x12 1x12", map[int64]int64{12: 1}},
		{5, 1, "1x12 1x", map[int64]int64{12: 1}},
		{3, 1, "1x 1x 1x 1x 1x 1x 1x 1x", map[int64]int64{1: 7}},
		{3, 1, "1x 1x2 1x3 1x4 1x5 1x6 1x7 1x12", map[int64]int64{2: 1, 3: 1, 4: 1, 5: 1, 6: 1, 7: 1, 12: 1}},
		// Powers of one letter: of 3, 4 and 5, of 4, 5 and 6, and with no relations of less than 12, or at all.
		{5, 1, "1x2 1x3", map[int64]int64{6: 1}},
		{7, 1, "1x3 1x4 1x5", map[int64]int64{8: 1, 9: 1, 10: 1}},
		{7, 1, "1x4 1x5 1x6", map[int64]int64{10: 1, 12: 1}},
		{7, 1, "1x3 1x4", map[int64]int64{12: 1}},
		{7, 1, "1x4 1x6", map[int64]int64{12: 1}},
		{7, 1, "1x4 1x5", nil},
		// All monomials of a degree have relations of twice this degree only.
		{7, 2, "1x3 1x2y 1xy2 1y3", map[int64]int64{6: 3}},
		{7, 2, "1x4 1x3y 1x2y2 1xy3 1y4", map[int64]int64{8: 6}},
		{7, 2, "1x6 1x5y 1x4y2 1x3y3 1x2y4 1xy5 1y6", map[int64]int64{12: 15}},
		{7, 3, "1x2 1xy 1xz 1y2 1yz 1z2", map[int64]int64{4: 6}},
		{7, 3, "1x2 1xy 1xz 1y2 1yz 1z2 1x2+1y2 1xy+1z2", map[int64]int64{2: 2, 4: 6}},
		{7, 3, "1xy 1xz 1yz", nil},
		{7, 3, "1x3 1y3 1z3 1xyz", map[int64]int64{9: 1}},
		{7, 3, "1x4 1y4 1z4 1xyz", map[int64]int64{12: 1}},
		// The invariants of the turns of three letters.
		{7, 3, "1x+1y+1z 1xy+1xz+1yz 1x2z+1xy2+1yz2 1xyz", map[int64]int64{6: 1}},
		{2, 2, "1x+1y 1x2+1y2", map[int64]int64{2: 1}},
		{3, 2, "1x+1y 1x2+1y2", nil},
		{3, 2, "1x+1y 1x2+1y2 1x3+1y3", map[int64]int64{3: 1}},
		{5, 2, "1x+1y 1x2+1y2 1x3+1y3 1x4+1y4", map[int64]int64{3: 1, 4: 1}},
	}
}

func TestNewRelations(t *testing.T) {
	for _, c := range newCases() {
		list := splitPolys(t, c.p, c.d, c.texts)
		for n := range int64(impl.MaxDegree + 1) {
			number, code := impl.NewRelations(list, n)
			wantNumber(t, fmt.Sprintf("NewRelations(%s, %d)", c.texts, n), number, code, c.want[n], impl.ErrNone)
		}
	}
}

// TestNewRelationsOfManyProducts takes lists with so many products that relations could not be written down:
// five of eight forms are sums of multiples of three letters.
func TestNewRelationsOfManyProducts(t *testing.T) {
	list := splitPolys(t, 13, 3, "1x 1y 1z 1x+1y 1x+1z 1y+1z 1x+1y+1z 1x+2y+3z")
	for n := range int64(impl.MaxDegree + 1) {
		number, code := impl.NewRelations(list, n)
		wantNumber(t, fmt.Sprintf("NewRelations of eight forms, %d", n), number, code, map[int64]int64{1: 5}[n], impl.ErrNone)
	}
}

func TestIsRelation(t *testing.T) {
	cases := []struct {
		p, d    int64
		texts   string
		n       int64
		numbers []int64
		want    bool
	}{
		{5, 2, "1x2 1xy 1y2", 4, []int64{0, 0, 1, 4, 0, 0}, true},
		{5, 2, "1x2 1xy 1y2", 4, []int64{0, 0, 2, 3, 0, 0}, true},
		{5, 2, "1x2 1xy 1y2", 4, []int64{0, 0, 4, 1, 0, 0}, true},
		{5, 2, "1x2 1xy 1y2", 4, zeros(6), true},
		{5, 2, "1x2 1xy 1y2", 4, []int64{0, 0, 1, 1, 0, 0}, false},
		{5, 2, "1x2 1xy 1y2", 4, []int64{0, 0, 4, 1, 0, 1}, false},
		{5, 2, "1x2 1xy 1y2", 4, []int64{1, 0, 1, 4, 0, 0}, false},
		{5, 2, "1x2 1xy 1y2", 4, row(6, 1), false},
		{5, 2, "1x2 1xy 1y2", 2, zeros(3), true},
		{5, 2, "1x2 1xy 1y2", 2, []int64{0, 0, 1}, false},
		// Without products there are no numbers.
		{5, 2, "1x2 1xy 1y2", 3, nil, true},
		{5, 2, "1x2 1xy 1y2", 1, []int64{}, true},
		{5, 2, "1x2", 11, nil, true},
		// The product 1 of the degree 0 is not 0.
		{5, 2, "1x2 1xy 1y2", 0, []int64{0}, true},
		{5, 2, "1x2 1xy 1y2", 0, []int64{1}, false},
		{5, 2, "1x2 1xy 1y2", 0, []int64{4}, false},
		{2, 1, "1x", 12, []int64{0}, true},
		{2, 1, "1x", 12, []int64{1}, false},
		{2, 2, "1x+1y 1x2+1y2", 2, []int64{1, 1}, true},
		{2, 2, "1x+1y 1x2+1y2", 2, []int64{1, 0}, false},
		{13, 1, "1x12 1x12", 12, []int64{12, 1}, true},
		{13, 1, "1x12 1x12", 12, []int64{12, 12}, false},
		{13, 1, "5x12 1x12", 12, []int64{5, 1}, true},
		{5, 1, "1x 1x 1x 1x 1x 1x 1x 1x", 1, []int64{1, 1, 1, 1, 1, 0, 0, 0}, true},
		{5, 1, "1x 1x 1x 1x 1x 1x 1x 1x", 1, []int64{1, 1, 1, 1, 1, 1, 0, 0}, false},
		{5, 1, "1x 1x 1x 1x 1x 1x 1x 1x", 4, row(330, 1), true},
		{7, 1, "1x 1x 1x 1x 1x 1x 1x 1x", 4, row(330, 1), false},
	}
	for _, c := range cases {
		yes, code := impl.IsRelation(splitPolys(t, c.p, c.d, c.texts), c.n, c.numbers)
		wantBool(t, fmt.Sprintf("IsRelation(%s, %d, %v)", c.texts, c.n, c.numbers), yes, code, c.want)
	}
}

// TestIsRelationOfManyNumbers takes as many products as there can be, 50388: they are all equal, so that their
// numbers have to add up to 0.
func TestIsRelationOfManyNumbers(t *testing.T) {
	list := slices.Repeat([]impl.Poly{parsed(t, 13, 1, "1x")}, impl.MaxList)
	numbers := row(50388, 5)
	numbers[0] = (13 - 50387*5%13) % 13
	yes, code := impl.IsRelation(list, impl.MaxDegree, numbers)
	wantBool(t, "IsRelation of many numbers", yes, code, true)
	numbers[50387]--
	yes, code = impl.IsRelation(list, impl.MaxDegree, numbers)
	wantBool(t, "IsRelation of many numbers, one less", yes, code, false)
	for _, wrong := range [][]int64{numbers[1:], append(slices.Clone(numbers), 0)} {
		yes, code = impl.IsRelation(list, impl.MaxDegree, wrong)
		wantZero(t, fmt.Sprintf("IsRelation of %d numbers", len(wrong)), !yes, code, impl.ErrRange)
	}
}

// TestIsRelationErrors gives lists of too few or too many numbers, and numbers that are outside.
func TestIsRelationErrors(t *testing.T) {
	list := splitPolys(t, 5, 2, "1x2 1xy 1y2")
	wrong := map[int64][][]int64{
		0:  {nil, {}, {0, 0}, {5}, {-1}, zeros(6)},
		1:  {{0}, {0, 0}, {-1}, zeros(50)},
		2:  {nil, {0}, {0, 0}, zeros(4), zeros(6)},
		3:  {{0}, zeros(3), {5}},
		4:  {nil, {1}, zeros(5), zeros(7), zeros(300), {0, 0, 1, 4, 0}, {0, 0, 1, 4, 0, 0, 0}},
		12: {nil, zeros(27), zeros(29)},
	}
	for i := range 6 {
		for _, bad := range []int64{-1, 5, 6, 10, -5, 256, 1 << 32, math.MaxInt64, math.MinInt64} {
			numbers := []int64{0, 0, 1, 4, 0, 0}
			numbers[i] = bad
			wrong[4] = append(wrong[4], numbers)
		}
	}
	for n, lists := range wrong {
		for _, numbers := range lists {
			yes, code := impl.IsRelation(list, n, numbers)
			wantZero(t, fmt.Sprintf("IsRelation(.., %d, %v)", n, numbers), !yes, code, impl.ErrRange)
		}
	}
}

// relationListCalls are the functions of a list and a degree in 0..MaxDegree, with degrees at and outside of the
// ends of the range, and numbers of all kinds.
func relationListCalls() map[string]func(list []impl.Poly) (bool, int64) {
	calls := map[string]func(list []impl.Poly) (bool, int64){}
	for n := range askedDegrees(impl.MaxDegree) {
		calls[fmt.Sprint("RelationsOf ", n)] = func(list []impl.Poly) (bool, int64) {
			rows, code := impl.RelationsOf(list, n)
			return len(rows) == 0, code
		}
		calls[fmt.Sprint("CountRelations ", n)] = func(list []impl.Poly) (bool, int64) {
			number, code := impl.CountRelations(list, n)
			return number == 0, code
		}
		calls[fmt.Sprint("NewRelations ", n)] = func(list []impl.Poly) (bool, int64) {
			number, code := impl.NewRelations(list, n)
			return number == 0, code
		}
		for _, numbers := range [][]int64{nil, {0}, {1}, {-1}, {99}, {0, 0}, zeros(9), zeros(1000)} {
			calls[fmt.Sprint("IsRelation ", n, numbers)] = func(list []impl.Poly) (bool, int64) {
				yes, code := impl.IsRelation(list, n, numbers)
				return !yes, code
			}
		}
	}
	return calls
}

// TestRelationListErrors gives what is no list: what is no polynomial is found first, whatever the degree and the
// numbers are.
func TestRelationListErrors(t *testing.T) {
	wantNoListsRefused(t, relationListCalls())
	wantEmptyRefused(t, relationListCalls())
}

// TestDegreesOfRelations asks at and outside of the ends of the range, for lists of all lengths.
func TestDegreesOfRelations(t *testing.T) {
	for count := 1; count <= impl.MaxList; count++ {
		list := slices.Repeat([]impl.Poly{built(5, 2, term(1, 6))}, count)
		for n, inside := range askedDegrees(impl.MaxDegree) {
			rows, code := impl.RelationsOf(list, n)
			number, other := impl.CountRelations(list, n)
			fresh, third := impl.NewRelations(list, n)
			if !inside {
				wantZero(t, asked("RelationsOf", list, n), len(rows) == 0, code, impl.ErrRange)
				wantNumber(t, asked("CountRelations", list, n), number, other, 0, impl.ErrRange)
				wantNumber(t, asked("NewRelations", list, n), fresh, third, 0, impl.ErrRange)
				yes, code := impl.IsRelation(list, n, nil)
				wantZero(t, asked("IsRelation", list, n), !yes, code, impl.ErrRange)
				continue
			}
			ways := waysByHand([]int64{6, 6, 6, 6, 6, 6, 6, 6}[:count], n)
			yes, last := impl.IsRelation(list, n, zeros(int(ways)))
			wantBool(t, asked("IsRelation of zeros", list, n), yes, last, true)
			want := max(ways-1, 0)
			wantNumber(t, asked("how many RelationsOf", list, n), int64(len(rows)), code, want, impl.ErrNone)
			wantNumber(t, asked("CountRelations", list, n), number, other, want, impl.ErrNone)
			wantNumber(t, asked("NewRelations", list, n), fresh, third, 0, impl.ErrNone)
		}
	}
}

func TestNoetherNumber(t *testing.T) {
	cases := []struct {
		g    impl.Group
		want []int64
	}{
		{named(t, "point", 2), row(6, 1)},
		{named(t, "sign", 3), []int64{0, 2, 2, 2, 2, 2}},
		{named(t, "sign", 2), row(6, 1)},
		{named(t, "minus", 5), []int64{0, 2, 2, 2, 2, 2}},
		{named(t, "swap", 5), []int64{1, 2, 2, 2, 2, 2}},
		{named(t, "swap", 2), []int64{1, 2, 2, 2, 2, 2}},
		{named(t, "square", 3), []int64{0, 2, 2, 4, 4, 4}},
		{named(t, "triangle", 5), []int64{0, 2, 3, 3, 3, 3}},
		{named(t, "turn", 7), []int64{1, 2, 3, 3, 3, 3}},
		{named(t, "symmetric", 3), []int64{1, 2, 3, 3, 3, 3}},
		{named(t, "cube", 7), []int64{0, 2, 2, 4, 4, 6}},
		{groupWith(11, 3, unitOf(3)), row(6, 1)},
		{shears(5), []int64{1, 1, 1, 1, 5, 5}},
		{shears(13), row(6, 1)},
		{greatLinear(), []int64{0, 0, 0, 0, 0, 6}},
		// No generators are needed up to 6, or up to 5.
		{multiplesOf(13, 3, 2), zeros(6)},
		{powersOf(13, 2), zeros(6)},
		{powersOf(7, 3), []int64{0, 0, 0, 0, 0, 6}},
		// Eight generators are not too many.
		{diagonalGroup(5, 2, 2, 3), []int64{0, 2, 2, 4, 4, 4}},
	}
	for _, c := range cases {
		for n := int64(1); n <= impl.MaxSpace; n++ {
			number, code := impl.NoetherNumber(c.g, n)
			wantNumber(t, fmt.Sprintf("NoetherNumber(%v, %d)", c.g, n), number, code, c.want[n-1], impl.ErrNone)
		}
	}
}

// TestNoetherNumberLimit takes groups of which there are too many generators from some degree on.
func TestNoetherNumberLimit(t *testing.T) {
	found := 0
	for _, c := range generatorCases(t) {
		for n := int64(1); n <= impl.MaxSpace; n++ {
			number, code := impl.NoetherNumber(c.g, n)
			what := fmt.Sprintf("NoetherNumber(%v, %d)", c.g, n)
			if c.tooMany > 0 && n >= c.tooMany {
				found++
				wantNumber(t, what, number, code, 0, impl.ErrLimit)
				continue
			}
			want := int64(0)
			for _, f := range splitPolys(t, c.g.Prime, c.g.Size, c.want) {
				if k := topDegree(f); k <= n {
					want = max(want, k)
				}
			}
			wantNumber(t, what, number, code, want, impl.ErrNone)
		}
	}
	if found < 10 {
		t.Errorf("there are too many generators %d times", found)
	}
}

func TestTransferNumber(t *testing.T) {
	cases := []struct {
		g    impl.Group
		want []int64
	}{
		// Modular groups: the transfer of 1 is 0.
		{named(t, "swap", 2), []int64{0, 1, 1, 2, 2, 3, 3}},
		{named(t, "sign", 2), row(7, 1)},
		{named(t, "turn", 3), []int64{0, 1, 2, 3, 5, 7, 9}},
		{named(t, "symmetric", 2), []int64{0, 0, 0, 1, 1, 2, 3}},
		{shears(2), []int64{0, 1, 1, 2, 2, 3, 3}},
		{shears(3), []int64{0, 0, 1, 1, 1, 2, 2}},
		{shears(5), []int64{0, 0, 0, 0, 1, 1, 1}},
		{shears(13), zeros(7)},
		{greatLinear(), zeros(7)},
		// All others.
		{named(t, "swap", 3), []int64{1, 1, 2, 2, 3, 3, 4}},
		{named(t, "turn", 2), []int64{1, 1, 2, 4, 5, 7, 10}},
		{named(t, "point", 2), row(7, 1)},
		{named(t, "sign", 3), []int64{1, 0, 1, 0, 1, 0, 1}},
		{named(t, "cube", 13), []int64{1, 0, 1, 0, 2, 0, 3}},
		{multiplesOf(13, 3, 2), begun(7, 1)},
		{groupWith(2, 3, unitOf(3)), []int64{1, 3, 6, 10, 15, 21, 28}},
		{groupWith(5, 1, unitOf(1)), row(7, 1)},
	}
	for _, c := range cases {
		for n := range int64(impl.MaxSpace + 1) {
			number, code := impl.TransferNumber(c.g, n)
			wantNumber(t, fmt.Sprintf("TransferNumber(%v, %d)", c.g, n), number, code, c.want[n], impl.ErrNone)
		}
	}
}

// TestDegreesOfGroups gives what is no group, and degrees at and outside of the ends of the ranges, to the functions
// of a group and a degree: what is no group is found first, then degrees, then lists that are too long.
func TestDegreesOfGroups(t *testing.T) {
	calls := map[string]func(g impl.Group, n int64) (int64, int64){"NoetherNumber": impl.NoetherNumber, "TransferNumber": impl.TransferNumber}
	least := map[string]int64{"NoetherNumber": 1, "TransferNumber": 0}
	for name, call := range calls {
		for n, inside := range askedDegrees(impl.MaxSpace) {
			for why, g := range noGroups() {
				number, code := call(g, n)
				wantNumber(t, fmt.Sprintf("%s(%s, %d)", name, why, n), number, code, 0, impl.ErrInvalid)
			}
			for _, g := range []impl.Group{named(t, "swap", 5), shears(5), groupWith(5, 2, unitOf(2)), multiplesOf(7, 3, 2)} {
				number, code := call(g, n)
				if !inside || n < least[name] {
					wantNumber(t, fmt.Sprintf("%s(%v, %d)", name, g, n), number, code, 0, impl.ErrRange)
				} else if code != impl.ErrNone && (name != "NoetherNumber" || g.Size < 3) {
					t.Errorf("%s(%v, %d): code %d", name, g, n, code)
				}
			}
		}
	}
}

func TestValuesOf(t *testing.T) {
	cases := []struct {
		p, d  int64
		texts string
		point []int64
		want  []int64
	}{
		{5, 2, "1x2 1xy 1y2", []int64{2, 3}, []int64{4, 1, 4}},
		{5, 2, "1x2 1xy 1y2", []int64{0, 0}, []int64{0, 0, 0}},
		{5, 2, "1y 1x", []int64{2, 3}, []int64{3, 2}},
		// Equal polynomials, constants, 0, and such that are not homogeneous.
		{5, 2, "1x 1x 1x", []int64{4, 0}, []int64{4, 4, 4}},
		{5, 2, "3 0 1", []int64{4, 0}, []int64{3, 0, 1}},
		{5, 2, "1+1x+1xy2 4+1y12", []int64{2, 3}, []int64{1, 0}},
		{2, 1, "1+1x+1x12", []int64{1}, []int64{1}},
		{2, 1, "0", []int64{0}, []int64{0}},
		{13, 3, "12x4y4z4", []int64{12, 1, 12}, []int64{12}},
		{13, 3, "1x 1y 1z 1x 1y 1z 1x+1y+1z 12", []int64{1, 2, 11}, []int64{1, 2, 11, 1, 2, 11, 1, 12}},
		{3, 2, "1x 1x 1x 1x 1x 1x 1x 2x", []int64{2, 1}, []int64{2, 2, 2, 2, 2, 2, 2, 1}},
	}
	for _, c := range cases {
		values, code := impl.ValuesOf(splitPolys(t, c.p, c.d, c.texts), c.point)
		wantNumbers(t, fmt.Sprintf("ValuesOf(%s, %v)", c.texts, c.point), values, code, c.want, impl.ErrNone)
	}
}

// TestValuesOfNothing takes no polynomials, together with any list of numbers.
func TestValuesOfNothing(t *testing.T) {
	for _, list := range [][]impl.Poly{nil, {}, make([]impl.Poly, 0, 3)} {
		for _, point := range append(noPointsFor(5, 2), []int64{1}, []int64{0, 0, 0, 0}, []int64{math.MinInt64}, zeros(1000)) {
			values, code := impl.ValuesOf(list, point)
			wantNumbers(t, fmt.Sprintf("ValuesOf(%v, %v)", list, point), values, code, nil, impl.ErrNone)
		}
	}
}

// TestValuesOfErrors finds what is no polynomial first, then lists that are too long or not alike, and what is no
// point.
func TestValuesOfErrors(t *testing.T) {
	wantNoValues := func(what string, list []impl.Poly, point []int64, want int64) {
		t.Helper()
		values, code := impl.ValuesOf(list, point)
		wantNumbers(t, fmt.Sprintf("ValuesOf %s at %v", what, point), values, code, nil, want)
	}
	for _, point := range append(noPointsFor(5, 2), []int64{1, 2}) {
		for why, list := range noPolyLists() {
			wantNoValues(why, list, point, impl.ErrInvalid)
		}
		for why, list := range noValuedLists() {
			wantNoValues(why, list, point, impl.ErrRange)
		}
	}
	for _, texts := range []string{"1x", "0", "1", "1x 1y 1x 1y 1x 1y 1x 1y"} {
		for d := int64(1); d <= 3; d++ {
			if d == 1 && len(texts) > 2 {
				continue
			}
			for _, point := range noPointsFor(5, d) {
				wantNoValues(texts, splitPolys(t, 5, d, texts), point, impl.ErrRange)
			}
		}
	}
}

func TestAreSameOrbits(t *testing.T) {
	cases := []struct {
		g    impl.Group
		x, y []int64
		want bool
	}{
		{named(t, "swap", 3), []int64{1, 2}, []int64{2, 1}, true},
		{named(t, "swap", 3), []int64{1, 2}, []int64{1, 2}, true},
		{named(t, "swap", 3), []int64{1, 2}, []int64{1, 1}, false},
		{named(t, "swap", 3), []int64{0, 0}, []int64{0, 0}, true},
		{named(t, "swap", 3), []int64{0, 0}, []int64{0, 1}, false},
		{named(t, "point", 2), []int64{0}, []int64{1}, false},
		{named(t, "sign", 13), []int64{1}, []int64{12}, true},
		{named(t, "sign", 13), []int64{1}, []int64{11}, false},
		{named(t, "square", 5), []int64{1, 2}, []int64{3, 3}, false},
		{named(t, "square", 5), []int64{1, 2}, []int64{3, 4}, true},
		{named(t, "square", 5), []int64{1, 2}, []int64{3, 1}, true},
		{named(t, "turn", 3), []int64{0, 1, 2}, []int64{1, 2, 0}, true},
		{named(t, "turn", 3), []int64{0, 1, 2}, []int64{0, 2, 1}, false},
		{shears(5), []int64{1, 0}, []int64{1, 4}, true},
		{shears(5), []int64{0, 1}, []int64{0, 2}, false},
		{groupWith(5, 2, unitOf(2)), []int64{1, 2}, []int64{2, 1}, false},
		{greatLinear(), []int64{0, 1}, []int64{2, 2}, true},
		{greatLinear(), []int64{0, 0}, []int64{2, 2}, false},
		// There are more than MaxPoints points, which need not be looked at.
		{named(t, "turn", 11), []int64{1, 2, 3}, []int64{3, 1, 2}, true},
		{named(t, "turn", 11), []int64{1, 2, 3}, []int64{3, 2, 1}, false},
		{named(t, "cube", 13), []int64{12, 0, 5}, []int64{8, 1, 0}, true},
		{named(t, "cube", 13), []int64{12, 0, 5}, []int64{8, 2, 0}, false},
	}
	for _, c := range cases {
		for _, pair := range [][2][]int64{{c.x, c.y}, {c.y, c.x}} {
			yes, code := impl.AreSameOrbits(c.g, pair[0], pair[1])
			wantBool(t, fmt.Sprintf("AreSameOrbits(%v, %v, %v)", c.g, pair[0], pair[1]), yes, code, c.want)
		}
	}
}

// TestAreSameOrbitsErrors finds what is no group first, and what is no point at both places.
func TestAreSameOrbitsErrors(t *testing.T) {
	for why, g := range noGroups() {
		for _, x := range [][]int64{{1, 0}, nil, {1}, {-1, 7}} {
			for _, y := range [][]int64{{1, 0}, nil, {1, 0, 0}, {5, 0}} {
				yes, code := impl.AreSameOrbits(g, x, y)
				wantZero(t, fmt.Sprintf("AreSameOrbits(%s, %v, %v)", why, x, y), !yes, code, impl.ErrInvalid)
			}
		}
	}
	for _, name := range groupNames {
		g := named(t, name, 5)
		good := zeros(int(g.Size))
		for _, bad := range noPointsFor(5, g.Size) {
			for _, pair := range [][2][]int64{{good, bad}, {bad, good}, {bad, bad}} {
				yes, code := impl.AreSameOrbits(g, pair[0], pair[1])
				wantZero(t, fmt.Sprintf("AreSameOrbits(%s, %v, %v)", name, pair[0], pair[1]), !yes, code, impl.ErrRange)
			}
		}
	}
}

func TestCountOrbits(t *testing.T) {
	cases := []struct {
		g    impl.Group
		want int64
	}{
		{named(t, "point", 2), 2},
		{named(t, "point", 13), 13},
		{named(t, "sign", 2), 2},
		{named(t, "sign", 13), 7},
		{named(t, "swap", 2), 3},
		{named(t, "swap", 3), 6},
		{named(t, "swap", 13), 91},
		{named(t, "minus", 5), 13},
		{named(t, "signs", 5), 9},
		{named(t, "square", 5), 6},
		{named(t, "turn", 2), 4},
		{named(t, "turn", 3), 11},
		{named(t, "symmetric", 3), 10},
		{named(t, "cube", 3), 4},
		{shears(5), 9},
		{greatLinear(), 2},
		{groupWith(2, 1, unitOf(1)), 2},
		{groupWith(13, 2, unitOf(2)), 169},
		// 343 is the greatest number of points that is at most MaxPoints; no group has 400 of them.
		{groupWith(7, 3, unitOf(3)), 343},
		{named(t, "turn", 7), 119},
		{named(t, "symmetric", 7), 84},
		{named(t, "cube", 7), 20},
	}
	for _, c := range cases {
		number, code := impl.CountOrbits(c.g)
		wantNumber(t, fmt.Sprintf("CountOrbits(%v)", c.g), number, code, c.want, impl.ErrNone)
	}
}

// manyPoints are groups with 1331 and 2197 points: these are the least numbers that are more than MaxPoints.
func manyPoints(t *testing.T) []impl.Group {
	t.Helper()
	var groups []impl.Group
	for _, p := range []int64{11, 13} {
		groups = append(groups, groupWith(p, 3, unitOf(3)), named(t, "turn", p), named(t, "cube", p), multiplesOf(p, 3, 2))
	}
	return groups
}

func TestSeparatesOrbits(t *testing.T) {
	cases := []struct {
		g     impl.Group
		texts string
		yes   bool
		seen  int64
	}{
		{named(t, "swap", 3), "1x+1y 1xy", true, 6},
		{named(t, "swap", 3), "1x+1y", false, 3},
		{named(t, "swap", 3), "1xy", false, 3},
		{named(t, "swap", 3), "1x+1y 1x2+1y2", true, 6},
		{named(t, "swap", 2), "1x+1y 1x2+1y2", false, 2},
		{named(t, "swap", 2), "1x+1y 1xy", true, 3},
		// Values of polynomials that are not invariant separate points of one orbit as well.
		{named(t, "swap", 3), "1x 1y", true, 9},
		{named(t, "swap", 3), "1x", false, 3},
		{named(t, "swap", 3), "1x 1xy", false, 7},
		{named(t, "swap", 3), "1x 1x+1y", true, 9},
		{named(t, "sign", 5), "1x", true, 5},
		{named(t, "sign", 5), "1x2", true, 3},
		{named(t, "sign", 5), "1x4", false, 2},
		// Nothing, constants and 0 tell no points apart, and there are always two orbits.
		{named(t, "swap", 3), "", false, 1},
		{named(t, "swap", 3), "0", false, 1},
		{named(t, "swap", 3), "2 0 1", false, 1},
		{named(t, "point", 2), "", false, 1},
		{greatLinear(), "", false, 1},
		{named(t, "point", 2), "1x", true, 2},
		{named(t, "point", 2), "1+1x", true, 2},
		{named(t, "point", 13), "1x12", false, 2},
		{named(t, "point", 13), "1x12 1x11", true, 13},
		// Polynomials that are not homogeneous, and equal ones.
		{named(t, "swap", 3), "1+1x+1y+1xy", false, 3},
		{named(t, "swap", 3), "1+1x+1y 2+1xy 1+1x+1y 1+1x+1y", true, 6},
		{named(t, "swap", 5), "1x+1y 1x+1y 1x+1y 1x+1y 1x+1y 1x+1y 1x+1y 1xy", true, 15},
		{named(t, "minus", 3), "1x2 1xy 1y2", true, 5},
		{named(t, "minus", 3), "1x2 1y2", false, 4},
		{named(t, "minus", 3), "1x2+1xy 1y2", false, 4},
		// All points but 0 are one orbit, and this invariant is 0 nowhere else.
		{greatLinear(), "1x6+1x4y2+1x2y4+1y6", true, 2},
		{shears(3), "1x 1x2y+2y3", true, 5},
		{shears(3), "1x", false, 3},
		{named(t, "turn", 2), "1x+1y+1z 1xy+1xz+1yz 1xyz", true, 4},
		{named(t, "turn", 3), "1x+1y+1z 1xy+1xz+1yz 1xyz", false, 10},
		{named(t, "turn", 3), "1x+1y+1z 1xy+1xz+1yz 1xyz 1x2y+1xz2+1y2z", true, 11},
		{named(t, "symmetric", 7), "1x+1y+1z 1xy+1xz+1yz 1xyz", true, 84},
		{named(t, "cube", 7), "1x2+1y2+1z2 1x2y2+1x2z2+1y2z2 1x2y2z2", true, 20},
		{groupWith(7, 3, unitOf(3)), "1x 1y 1z", true, 343},
		{groupWith(7, 3, unitOf(3)), "1x+1y 1y+1z", false, 49},
	}
	for _, c := range cases {
		list := splitPolys(t, c.g.Prime, c.g.Size, c.texts)
		yes, code := impl.SeparatesOrbits(c.g, list)
		wantBool(t, fmt.Sprintf("SeparatesOrbits(%v, %s)", c.g, c.texts), yes, code, c.yes)
		number, code := impl.CommonValues(c.g, list)
		wantNumber(t, fmt.Sprintf("CommonValues(%v, %s)", c.g, c.texts), number, code, c.seen, impl.ErrNone)
	}
}

// sceneCalls are the functions that look at all points of a group, two of them with a list.
func sceneCalls() map[string]func(g impl.Group, list []impl.Poly) (bool, int64) {
	return map[string]func(g impl.Group, list []impl.Poly) (bool, int64){
		"CountOrbits": func(g impl.Group, _ []impl.Poly) (bool, int64) {
			number, code := impl.CountOrbits(g)
			return number == 0, code
		},
		"SeparatesOrbits": func(g impl.Group, list []impl.Poly) (bool, int64) {
			yes, code := impl.SeparatesOrbits(g, list)
			return !yes, code
		},
		"CommonValues": func(g impl.Group, list []impl.Poly) (bool, int64) {
			number, code := impl.CommonValues(g, list)
			return number == 0, code
		},
	}
}

// TestOrbitsOfNoGroups finds what is no group, or no polynomial, before all else.
func TestOrbitsOfNoGroups(t *testing.T) {
	x := built(5, 2, term(1, 1))
	lists := [][]impl.Poly{nil, {x}, {{}}, {built(7, 2), x}, slices.Repeat([]impl.Poly{x}, 9), {built(11, 3)}}
	groups := append(manyPoints(t), named(t, "swap", 5), named(t, "swap", 7), named(t, "cube", 5))
	for name, call := range sceneCalls() {
		for why, g := range noGroups() {
			for _, list := range lists {
				zero, code := call(g, list)
				wantZero(t, fmt.Sprintf("%s(%s, %v)", name, why, list), zero, code, impl.ErrInvalid)
			}
		}
		if name == "CountOrbits" {
			continue
		}
		for why, list := range noPolyLists() {
			for _, g := range groups {
				zero, code := call(g, list)
				wantZero(t, fmt.Sprintf("%s of %d, %d and %s", name, g.Prime, g.Size, why), zero, code, impl.ErrInvalid)
			}
		}
	}
}

// TestOrbitsOfOthers gives lists that are too long, not alike, or not for the group: that is found before groups with
// too many points.
func TestOrbitsOfOthers(t *testing.T) {
	groups := append(manyPoints(t), named(t, "swap", 5), groupWith(5, 2, unitOf(2)), shears(5), named(t, "cube", 7))
	for name, call := range sceneCalls() {
		if name == "CountOrbits" {
			continue
		}
		for _, g := range groups {
			what := fmt.Sprintf("%s of %d, %d", name, g.Prime, g.Size)
			for why, list := range noValuedLists() {
				zero, code := call(g, list)
				wantZero(t, what+" and "+why, zero, code, impl.ErrRange)
			}
			for _, q := range primes {
				for d := int64(1); d <= 3; d++ {
					if q == g.Prime && d == g.Size {
						continue
					}
					for _, text := range []string{"0", "1", "1x", "1x 1x2", "1 1 1 1 1 1 1 1"} {
						zero, code := call(g, splitPolys(t, q, d, text))
						wantZero(t, fmt.Sprintf("%s and %s for %d, %d", what, text, q, d), zero, code, impl.ErrRange)
					}
				}
			}
		}
	}
}

// TestOrbitsLimit takes groups with more than MaxPoints points, with lists of all lengths.
func TestOrbitsLimit(t *testing.T) {
	for name, call := range sceneCalls() {
		for _, g := range manyPoints(t) {
			for _, texts := range []string{"", "0", "3", "1x", "1+1x 1y", "1x 1y 1z 1x 1y 1z 1x12 1x+1y12"} {
				zero, code := call(g, splitPolys(t, g.Prime, 3, texts))
				wantZero(t, fmt.Sprintf("%s(%v, %s)", name, g, texts), zero, code, impl.ErrLimit)
			}
		}
	}
}
