package tests

import (
	"fmt"
	"math/rand"
	"slices"
	"testing"

	"loop.example/g01285/impl"
)

// groupNames are those of the document.
var groupNames = []string{"point", "sign", "minus", "swap", "signs", "square", "triangle", "turn", "symmetric", "cube"}

// unitOf returns the unit of a size.
func unitOf(n int64) impl.Matrix {
	var g impl.Matrix
	for i := range n {
		g[i][i] = 1
	}
	return g
}

// groupWith returns a group that is written down by its Elements, checked or not.
func groupWith(p int64, n int64, elements ...impl.Matrix) impl.Group {
	return impl.Group{Prime: p, Size: n, Elements: elements}
}

// named returns the group with a name.
func named(t *testing.T, name string, p int64) impl.Group {
	t.Helper()
	g, code := impl.NamedGroup(name, p)
	if code != impl.ErrNone {
		t.Fatalf("NamedGroup(%q, %d): code %d", name, p, code)
	}
	return g
}

// sameGroup compares groups; a nil list of Elements is an empty one.
func sameGroup(g impl.Group, h impl.Group) bool {
	return g.Prime == h.Prime && g.Size == h.Size && slices.Equal(g.Elements, h.Elements)
}

// wantGroup checks a group with ErrNone.
func wantGroup(t *testing.T, what string, g impl.Group, code int64, want impl.Group) {
	t.Helper()
	if code != impl.ErrNone || !sameGroup(g, want) {
		t.Errorf("%s = %v, %d, want %v, 0", what, g, code, want)
	}
}

// wantNoGroup checks an error and the zero value beside it.
func wantNoGroup(t *testing.T, what string, g impl.Group, code int64, want int64) {
	t.Helper()
	if code != want || !sameGroup(g, impl.Group{}) {
		t.Errorf("%s = %v, %d, want the zero value, %d", what, g, code, want)
	}
}

// wantMatrix checks a matrix and a code.
func wantMatrix(t *testing.T, what string, g impl.Matrix, code int64, want impl.Matrix, wantCode int64) {
	t.Helper()
	if g != want || code != wantCode {
		t.Errorf("%s = %v, %d, want %v, %d", what, g, code, want, wantCode)
	}
}

// wantLists checks lists of numbers and a code; without ErrNone there are none.
func wantLists(t *testing.T, what string, lists [][]int64, code int64, want [][]int64, wantCode int64) {
	t.Helper()
	if !slices.EqualFunc(lists, want, slices.Equal) || code != wantCode {
		t.Errorf("%s = %v, %d, want %v, %d", what, lists, code, want, wantCode)
	}
}

// noMatrix is a matrix with a prime and a size for which it is none.
type noMatrix struct {
	why  string
	p, n int64
	g    impl.Matrix
}

// noMatrices are no matrices, each for one reason.
func noMatrices() []noMatrix {
	list := []noMatrix{
		{"size 0", 5, 0, impl.Matrix{}},
		{"size 0 of a unit", 5, 0, unitOf(1)},
		{"size -1", 5, -1, unitOf(1)},
		{"size 4", 5, 4, unitOf(3)},
		{"size 257", 5, 257, unitOf(1)},
		{"only 0, size 1", 5, 1, impl.Matrix{}},
		{"only 0, size 2", 5, 2, impl.Matrix{}},
		{"only 0, size 3", 5, 3, impl.Matrix{}},
		{"number p, size 1", 5, 1, impl.Matrix{{5}}},
		{"number p + 1, size 1", 5, 1, impl.Matrix{{6}}},
		{"number 255", 13, 1, impl.Matrix{{255}}},
		{"number 2 modulo 2", 2, 2, impl.Matrix{{1, 2}, {0, 1}}},
		{"number p in the corner", 3, 3, impl.Matrix{{1}, {0, 1}, {3, 0, 1}}},
		{"row 1 outside", 5, 1, impl.Matrix{{1}, {1}}},
		{"column 1 outside", 5, 1, impl.Matrix{{1, 1}}},
		{"diagonal outside, size 1", 5, 1, impl.Matrix{{1}, {0, 1}}},
		{"unit of the size 3, size 1", 5, 1, unitOf(3)},
		{"row 2 outside", 5, 2, impl.Matrix{{1}, {0, 1}, {0, 1}}},
		{"column 2 outside", 5, 2, impl.Matrix{{1, 0, 1}, {0, 1}}},
		{"diagonal outside, size 2", 5, 2, unitOf(3)},
		{"rows are equal", 5, 2, impl.Matrix{{1, 2}, {1, 2}}},
		{"rows are multiples", 5, 2, impl.Matrix{{1, 2}, {3, 1}}},
		{"a column is 0", 5, 2, impl.Matrix{{1, 0}, {1, 0}}},
		{"determinant 5", 5, 2, impl.Matrix{{4, 1}, {3, 2}}},
		{"unit of the size 2, size 3", 5, 3, unitOf(2)},
		{"rows 0, 1 make row 2", 7, 3, impl.Matrix{{1, 2, 3}, {4, 5, 6}, {5, 0, 2}}},
		{"determinant 13", 13, 3, impl.Matrix{{1, 0, 0}, {0, 4, 1}, {0, 3, 4}}},
	}
	for _, p := range noPrimes {
		list = append(list, noMatrix{"no prime", p, 1, unitOf(1)}, noMatrix{"no prime", p, 3, unitOf(3)})
	}
	return list
}

// unipotents lists the matrices with the rows 1, a, b and 0, 1, 0 and 0, 0, 1, ascending: as many
// as there are pairs of numbers modulo p, and closed.
func unipotents(p int64) []impl.Matrix {
	var list []impl.Matrix
	for a := range p {
		for b := range p {
			list = append(list, impl.Matrix{{1, byte(a), byte(b)}, {0, 1, 0}, {0, 0, 1}})
		}
	}
	return list
}

// noGroups are no groups, each for one reason.
func noGroups() map[string]impl.Group {
	unit, minus := unitOf(2), impl.Matrix{{4, 0}, {0, 4}}
	swap, shear := impl.Matrix{{0, 1}, {1, 0}}, impl.Matrix{{1, 1}, {0, 1}}
	groups := map[string]impl.Group{
		"zero value":            {},
		"no elements":           groupWith(5, 2),
		"unit is missing":       groupWith(5, 2, minus),
		"swap without unit":     groupWith(5, 2, swap),
		"descending":            groupWith(5, 2, minus, unit),
		"doubled unit":          groupWith(5, 2, unit, unit),
		"doubled at the end":    groupWith(5, 2, unit, minus, minus),
		"other prime":           groupWith(7, 2, unit, minus),
		"not closed":            groupWith(5, 2, unit, shear),
		"not closed by two":     groupWith(5, 2, swap, unit, minus),
		"element is singular":   groupWith(5, 2, impl.Matrix{}, unit),
		"singular, idempotent":  groupWith(5, 2, unitOf(1), unit),
		"number outside":        groupWith(5, 1, unitOf(1), impl.Matrix{{1, 1}}),
		"unit too great":        groupWith(5, 2, unitOf(3)),
		"unit too small":        groupWith(5, 3, unitOf(2)),
		"number p":              groupWith(3, 1, unitOf(1), impl.Matrix{{4}}),
		"size 0":                groupWith(5, 0, unitOf(1)),
		"size 0, nothing":       groupWith(5, 0, impl.Matrix{}),
		"size -1":               groupWith(5, -1, unitOf(1)),
		"size 4":                groupWith(5, 4, unitOf(3)),
		"49 elements":           groupWith(7, 3, unipotents(7)...),
		"48 of 49 elements":     groupWith(7, 3, unipotents(7)[:48]...),
		"many times the unit":   groupWith(5, 2, slices.Repeat([]impl.Matrix{unit}, 1000)...),
		"shear and its inverse": groupWith(5, 2, unit, shear, impl.Matrix{{1, 4}, {0, 1}}),
	}
	for _, p := range noPrimes {
		groups[fmt.Sprint("size 1 modulo ", p)] = groupWith(p, 1, unitOf(1))
		groups[fmt.Sprint("size 2 modulo ", p)] = groupWith(p, 2, unit)
	}
	return groups
}

// noPointsFor returns lists that are no points for a prime and a size.
func noPointsFor(p int64, n int64) [][]int64 {
	list := [][]int64{nil, {}, make([]int64, n-1), make([]int64, n+1), make([]int64, 300)}
	for i := range n {
		for _, bad := range []int64{-1, p, p + 1, 256, -p, 1 << 62, -1 << 63} {
			point := make([]int64, n)
			point[i] = bad
			list = append(list, point)
		}
	}
	return list
}

// numbersMatrix is a matrix as the tests reckon with it, without zeros outside of its size.
type numbersMatrix [][]int64

// opened returns the numbers of a matrix of a size.
func opened(n int64, g impl.Matrix) numbersMatrix {
	rows := make(numbersMatrix, n)
	for i := range rows {
		for j := range n {
			rows[i] = append(rows[i], int64(g[i][j]))
		}
	}
	return rows
}

// closed returns the matrix with numbers.
func (m numbersMatrix) closed() impl.Matrix {
	var g impl.Matrix
	for i, row := range m {
		for j, number := range row {
			g[i][j] = byte(number)
		}
	}
	return g
}

// determinant develops by the first row.
func (m numbersMatrix) determinant(p int64) int64 {
	if len(m) == 0 {
		return 1
	}
	sum := int64(0)
	for j, number := range m[0] {
		var rest numbersMatrix
		for _, row := range m[1:] {
			rest = append(rest, slices.Concat(row[:j], row[j+1:]))
		}
		part := number * rest.determinant(p) % p
		if j%2 == 1 {
			part = p - part
		}
		sum = (sum + part) % p
	}
	return sum
}

// timesMatrix returns the product of two matrices, apart from the program.
func timesMatrix(p int64, n int64, g impl.Matrix, h impl.Matrix) impl.Matrix {
	left, right := opened(n, g), opened(n, h)
	rows := make(numbersMatrix, n)
	for i := range n {
		rows[i] = make([]int64, n)
		for k := range n {
			for j := range n {
				rows[i][j] = (rows[i][j] + left[i][k]*right[k][j]) % p
			}
		}
	}
	return rows.closed()
}

// led returns the point to which a matrix leads another one, apart from the program.
func led(p int64, n int64, g impl.Matrix, point []int64) []int64 {
	there := make([]int64, n)
	for i, row := range opened(n, g) {
		for j, number := range row {
			there[j] = (there[j] + point[i]*number) % p
		}
	}
	return there
}

// before reports whether g comes before h, number by number.
func before(g impl.Matrix, h impl.Matrix) int {
	for i := range 9 {
		if a, b := g[i/3][i%3], h[i/3][i%3]; a != b {
			return int(a) - int(b)
		}
	}
	return 0
}

// closedList multiplies a list and the unit with each other until nothing new arises, and returns
// all ascending, or nil for more than most.
func closedList(p int64, n int64, list []impl.Matrix, most int) []impl.Matrix {
	all := map[impl.Matrix]bool{unitOf(n): true}
	for _, g := range list {
		all[g] = true
	}
	for grown := true; grown; {
		grown = false
		var now []impl.Matrix
		for g := range all {
			now = append(now, g)
		}
		if len(now) > most {
			return nil
		}
		for _, g := range now {
			for _, h := range now {
				if gh := timesMatrix(p, n, g, h); !all[gh] {
					all[gh], grown = true, true
				}
			}
		}
	}
	var elements []impl.Matrix
	for g := range all {
		elements = append(elements, g)
	}
	slices.SortFunc(elements, before)
	return elements
}

// randomMatrix returns an invertible matrix.
func randomMatrix(r *rand.Rand, p int64, n int64) impl.Matrix {
	for {
		var g impl.Matrix
		for i := range n {
			for j := range n {
				g[i][j] = byte(r.Int63n(p))
			}
		}
		if opened(n, g).determinant(p) != 0 {
			return g
		}
	}
}

// powerOf returns the power k of at least 0 of a matrix, by squares.
func powerOf(p int64, n int64, g impl.Matrix, k int64) impl.Matrix {
	power := unitOf(n)
	for ; k > 0; k /= 2 {
		if k%2 == 1 {
			power = timesMatrix(p, n, power, g)
		}
		g = timesMatrix(p, n, g, g)
	}
	return power
}

// hasOrder reports whether k is the order of g: the power k is the unit, and no power by a divisor
// k/q for a prime q is.
func hasOrder(p int64, n int64, g impl.Matrix, k int64) bool {
	if k < 1 || powerOf(p, n, g, k) != unitOf(n) {
		return false
	}
	rest := k
	for q := int64(2); q <= rest; q++ {
		if rest%q != 0 {
			continue
		}
		if powerOf(p, n, g, k/q) == unitOf(n) {
			return false
		}
		for rest%q == 0 {
			rest /= q
		}
	}
	return true
}

// manyGroups calls a check with groups of all primes and sizes: those with names, conjugates and
// subgroups of them, those of random matrices, and those of orders at the limit.
func manyGroups(t *testing.T, check func(g impl.Group)) {
	t.Helper()
	r := rand.New(rand.NewSource(4))
	for _, p := range primes {
		for _, name := range groupNames {
			g := named(t, name, p)
			check(g)
			m := randomMatrix(r, p, g.Size)
			var moved, some []impl.Matrix
			for _, x := range g.Elements {
				inverse := powerOf(p, g.Size, m, orderByHand(p, g.Size, m)-1)
				moved = append(moved, timesMatrix(p, g.Size, timesMatrix(p, g.Size, inverse, x), m))
			}
			slices.SortFunc(moved, before)
			check(groupWith(p, g.Size, moved...))
			for range 2 {
				some = append(some, moved[r.Intn(len(moved))])
			}
			check(groupWith(p, g.Size, closedList(p, g.Size, some, impl.MaxOrder)...))
		}
		for n := int64(1); n <= 3; n++ {
			for range 12 {
				if list := closedList(p, n, []impl.Matrix{randomMatrix(r, p, n)}, impl.MaxOrder); list != nil {
					check(groupWith(p, n, list...))
				}
			}
		}
	}
	check(groupWith(7, 2, closedList(7, 2, []impl.Matrix{cycle48}, impl.MaxOrder)...))
	check(groupWith(3, 2, closedList(3, 2, []impl.Matrix{{{0, 1}, {1, 0}}, {{1, 1}, {0, 1}}}, impl.MaxOrder)...))
	check(groupWith(5, 3, unipotents(5)...))
}

// cycle48 has the order 48 modulo 7.
var cycle48 = impl.Matrix{{0, 1}, {4, 1}}

// orderByHand counts the powers up to the unit.
func orderByHand(p int64, n int64, g impl.Matrix) int64 {
	k := int64(1)
	for power := g; power != unitOf(n); k++ {
		power = timesMatrix(p, n, power, g)
	}
	return k
}
