package tests

import (
	"fmt"
	"math"
	"math/rand"
	"slices"
	"strings"
	"testing"

	"loop.example/g01285/impl"
)

func TestGroupLimits(t *testing.T) {
	if impl.MaxOrder != 48 || impl.MaxPeriod != 3000 {
		t.Errorf("limits %d, %d", impl.MaxOrder, impl.MaxPeriod)
	}
}

// forTables calls a check with all tables of numbers modulo p inside of the size n, if they are few,
// or with some of them.
func forTables(p int64, n int64, check func(g impl.Matrix)) {
	count := int64(1)
	for range n * n {
		count *= p
	}
	r := rand.New(rand.NewSource(p))
	for from := range min(count, 20000) {
		if count > 20000 {
			from = r.Int63n(count)
		}
		var g impl.Matrix
		for i := range n {
			for j := range n {
				g[i][j] = byte(from % p)
				from /= p
			}
		}
		check(g)
	}
}

func TestIsMatrix(t *testing.T) {
	for _, p := range primes {
		for n := int64(1); n <= 3; n++ {
			forTables(p, n, func(g impl.Matrix) {
				if want := opened(n, g).determinant(p) != 0; impl.IsMatrix(p, n, g) != want {
					t.Fatalf("IsMatrix(%d, %d, %v) = %v", p, n, g, !want)
				}
			})
			for i := range 9 {
				g := unitOf(n)
				g[i/3][i%3] = byte(p)
				if impl.IsMatrix(p, n, g) {
					t.Errorf("IsMatrix(%d, %d, %v) = true", p, n, g)
				}
				g[i/3][i%3] = 1
				if inside := int64(i/3) < n && int64(i%3) < n; impl.IsMatrix(p, n, g) != inside {
					t.Errorf("IsMatrix(%d, %d, %v) = %v", p, n, g, !inside)
				}
			}
		}
	}
	for _, c := range noMatrices() {
		if impl.IsMatrix(c.p, c.n, c.g) {
			t.Errorf("%s: %v is no matrix for %d and %d", c.why, c.g, c.p, c.n)
		}
	}
	for _, n := range []int64{math.MinInt64, -256, -1, 0, 4, 5, 255, 256, 257, math.MaxInt64} {
		for most := int64(0); most <= 3; most++ {
			if impl.IsMatrix(5, n, unitOf(most)) {
				t.Errorf("%d is no size", n)
			}
		}
	}
}

// TestIsMatrixCount holds the number of matrices against the one that is known.
func TestIsMatrixCount(t *testing.T) {
	known := []struct {
		p, n  int64
		count int
	}{{2, 1, 1}, {13, 1, 12}, {2, 2, 6}, {3, 2, 48}, {5, 2, 480}, {11, 2, 120 * 110}, {2, 3, 168}, {3, 3, 11232}}
	for _, c := range known {
		count := 0
		forTables(c.p, c.n, func(g impl.Matrix) {
			if impl.IsMatrix(c.p, c.n, g) {
				count++
			}
		})
		if count != c.count {
			t.Errorf("%d matrices for %d and %d, want %d", count, c.p, c.n, c.count)
		}
	}
}

func TestMultiplyMatrices(t *testing.T) {
	good := []struct {
		p, n       int64
		g, h, want impl.Matrix
	}{
		{3, 2, impl.Matrix{{0, 1}, {1, 0}}, impl.Matrix{{2, 0}, {0, 1}}, impl.Matrix{{0, 1}, {2, 0}}},
		{3, 2, impl.Matrix{{2, 0}, {0, 1}}, impl.Matrix{{0, 1}, {1, 0}}, impl.Matrix{{0, 2}, {1, 0}}},
		{2, 1, impl.Matrix{{1}}, impl.Matrix{{1}}, impl.Matrix{{1}}},
		{13, 1, impl.Matrix{{12}}, impl.Matrix{{12}}, impl.Matrix{{1}}},
		{7, 2, impl.Matrix{{1, 2}, {3, 4}}, impl.Matrix{{5, 6}, {0, 1}}, impl.Matrix{{5, 1}, {1, 1}}},
		{13, 3, impl.Matrix{{12, 12, 12}, {0, 12, 12}, {0, 0, 12}}, impl.Matrix{{12, 0, 0}, {12, 12, 0}, {12, 12, 12}}, impl.Matrix{{3, 2, 1}, {2, 2, 1}, {1, 1, 1}}},
	}
	for _, c := range good {
		g, code := impl.MultiplyMatrices(c.p, c.n, c.g, c.h)
		wantMatrix(t, fmt.Sprintf("MultiplyMatrices(%v)", c), g, code, c.want, impl.ErrNone)
	}
	for _, c := range noMatrices() {
		g, code := impl.MultiplyMatrices(c.p, c.n, c.g, unitOf(c.n%4))
		wantMatrix(t, "MultiplyMatrices of "+c.why, g, code, impl.Matrix{}, impl.ErrRange)
		g, code = impl.MultiplyMatrices(c.p, c.n, unitOf(c.n%4), c.g)
		wantMatrix(t, "MultiplyMatrices by "+c.why, g, code, impl.Matrix{}, impl.ErrRange)
	}
}

func TestInverseMatrix(t *testing.T) {
	good := []struct {
		p, n    int64
		g, want impl.Matrix
	}{
		{3, 2, impl.Matrix{{0, 1}, {2, 0}}, impl.Matrix{{0, 2}, {1, 0}}},
		{2, 1, impl.Matrix{{1}}, impl.Matrix{{1}}},
		{13, 1, impl.Matrix{{2}}, impl.Matrix{{7}}},
		{5, 2, impl.Matrix{{1, 1}, {0, 2}}, impl.Matrix{{1, 2}, {0, 3}}},
		{7, 3, impl.Matrix{{0, 1, 0}, {0, 0, 1}, {1, 0, 0}}, impl.Matrix{{0, 0, 1}, {1, 0, 0}, {0, 1, 0}}},
		{7, 3, impl.Matrix{{1, 1, 1}, {0, 1, 1}, {0, 0, 1}}, impl.Matrix{{1, 6, 0}, {0, 1, 6}, {0, 0, 1}}},
	}
	for _, c := range good {
		g, code := impl.InverseMatrix(c.p, c.n, c.g)
		wantMatrix(t, fmt.Sprintf("InverseMatrix(%v)", c), g, code, c.want, impl.ErrNone)
	}
	for _, c := range noMatrices() {
		g, code := impl.InverseMatrix(c.p, c.n, c.g)
		wantMatrix(t, "InverseMatrix of "+c.why, g, code, impl.Matrix{}, impl.ErrRange)
	}
}

func TestDeterminantOf(t *testing.T) {
	good := []struct {
		p, n int64
		g    impl.Matrix
		want int64
	}{
		{3, 2, impl.Matrix{{0, 1}, {2, 0}}, 1},
		{3, 2, impl.Matrix{{0, 1}, {1, 0}}, 2},
		{2, 2, impl.Matrix{{0, 1}, {1, 0}}, 1},
		{13, 1, impl.Matrix{{12}}, 12},
		{11, 2, impl.Matrix{{10, 1}, {9, 3}}, 10},
		{5, 3, impl.Matrix{{0, 1, 0}, {0, 0, 1}, {1, 0, 0}}, 1},
		{5, 3, impl.Matrix{{0, 1, 0}, {1, 0, 0}, {0, 0, 1}}, 4},
		{7, 3, impl.Matrix{{2, 1, 3}, {0, 4, 5}, {1, 6, 0}}, 3},
	}
	for _, c := range good {
		n, code := impl.DeterminantOf(c.p, c.n, c.g)
		wantNumber(t, fmt.Sprintf("DeterminantOf(%v)", c), n, code, c.want, impl.ErrNone)
	}
	for _, c := range noMatrices() {
		n, code := impl.DeterminantOf(c.p, c.n, c.g)
		wantNumber(t, "DeterminantOf "+c.why, n, code, 0, impl.ErrRange)
	}
}

// TestMatricesAgree reckons with random matrices here and there.
func TestMatricesAgree(t *testing.T) {
	r := rand.New(rand.NewSource(5))
	for _, p := range primes {
		for n := int64(1); n <= 3; n++ {
			for range 200 {
				g, h := randomMatrix(r, p, n), randomMatrix(r, p, n)
				gh, code := impl.MultiplyMatrices(p, n, g, h)
				wantMatrix(t, "MultiplyMatrices", gh, code, timesMatrix(p, n, g, h), impl.ErrNone)
				d, code := impl.DeterminantOf(p, n, g)
				wantNumber(t, "DeterminantOf", d, code, opened(n, g).determinant(p), impl.ErrNone)
				inverse, code := impl.InverseMatrix(p, n, g)
				if code != impl.ErrNone || timesMatrix(p, n, g, inverse) != unitOf(n) || timesMatrix(p, n, inverse, g) != unitOf(n) {
					t.Fatalf("InverseMatrix(%d, %d, %v) = %v, %d", p, n, g, inverse, code)
				}
			}
		}
	}
}

func TestOrderOfMatrix(t *testing.T) {
	good := []struct {
		p, n int64
		g    impl.Matrix
		want int64
	}{
		{2, 1, unitOf(1), 1},
		{13, 3, unitOf(3), 1},
		{13, 1, impl.Matrix{{12}}, 2},
		{13, 1, impl.Matrix{{2}}, 12},
		{3, 2, impl.Matrix{{0, 1}, {2, 0}}, 4},
		{13, 2, impl.Matrix{{1, 1}, {0, 1}}, 13},
		{2, 3, impl.Matrix{{1, 1, 0}, {0, 1, 1}, {0, 0, 1}}, 4},
		{7, 2, cycle48, 48},
		{5, 3, impl.Matrix{{0, 1, 0}, {0, 0, 1}, {1, 0, 0}}, 3},
	}
	for _, c := range good {
		n, code := impl.OrderOfMatrix(c.p, c.n, c.g)
		wantNumber(t, fmt.Sprintf("OrderOfMatrix(%v)", c), n, code, c.want, impl.ErrNone)
	}
	for _, c := range noMatrices() {
		n, code := impl.OrderOfMatrix(c.p, c.n, c.g)
		wantNumber(t, "OrderOfMatrix of "+c.why, n, code, 0, impl.ErrRange)
	}
}

// TestGreatestOrders takes one matrix of the size 3 with each characteristic polynomial. The greatest
// order of all is 13 x 13 x 13 - 1: none comes to MaxPeriod, so that ErrLimit never occurs.
func TestGreatestOrders(t *testing.T) {
	for _, p := range primes {
		greatest := int64(0)
		for from := range p * p * p {
			a, b, c := byte(from/p/p), byte(from/p%p), byte(from%p)
			g := impl.Matrix{{0, 1, 0}, {0, 0, 1}, {a, b, c}}
			n, code := impl.OrderOfMatrix(p, 3, g)
			if a == 0 {
				wantNumber(t, "OrderOfMatrix of no matrix", n, code, 0, impl.ErrRange)
				continue
			}
			if code != impl.ErrNone || !hasOrder(p, 3, g, n) {
				t.Fatalf("OrderOfMatrix(%d, 3, %v) = %d, %d", p, g, n, code)
			}
			greatest = max(greatest, n)
		}
		if greatest != p*p*p-1 {
			t.Errorf("greatest order modulo %d: %d, want %d", p, greatest, p*p*p-1)
		}
	}
}

func TestIsGroup(t *testing.T) {
	powers := closedList(7, 2, []impl.Matrix{cycle48}, impl.MaxOrder)
	good := map[string]impl.Group{
		"unit of the size 1": groupWith(2, 1, unitOf(1)),
		"unit of the size 3": groupWith(13, 3, unitOf(3)),
		"sign":               groupWith(13, 1, impl.Matrix{{1}}, impl.Matrix{{12}}),
		"swap":               groupWith(5, 2, impl.Matrix{{0, 1}, {1, 0}}, unitOf(2)),
		"25 unipotents":      groupWith(5, 3, unipotents(5)...),
		"48 powers":          groupWith(7, 2, powers...),
	}
	for why, g := range good {
		if !impl.IsGroup(g) {
			t.Errorf("%s: %v is a group", why, g)
		}
	}
	for why, g := range noGroups() {
		if impl.IsGroup(g) {
			t.Errorf("%s: %v is no group", why, g)
		}
	}
}

// TestIsGroupWithoutOne takes one Element away from groups, or puts one more to them, or exchanges
// two: what is left is no group, but for the group of the unit alone.
func TestIsGroupWithoutOne(t *testing.T) {
	manyGroups(t, func(g impl.Group) {
		if !impl.IsGroup(g) {
			t.Fatalf("%v is a group", g)
		}
		for i := range g.Elements {
			less := groupWith(g.Prime, g.Size, slices.Delete(slices.Clone(g.Elements), i, i+1)...)
			// One Element of two can be left alone: the unit.
			if want := len(g.Elements) == 2 && less.Elements[0] == unitOf(g.Size); impl.IsGroup(less) != want {
				t.Fatalf("without the Element %d of %v", i, g)
			}
			more := groupWith(g.Prime, g.Size, slices.Insert(slices.Clone(g.Elements), i, g.Elements[i])...)
			if impl.IsGroup(more) {
				t.Fatalf("with the Element %d of %v twice", i, g)
			}
			if i > 0 {
				swapped := groupWith(g.Prime, g.Size, slices.Clone(g.Elements)...)
				swapped.Elements[0], swapped.Elements[i] = swapped.Elements[i], swapped.Elements[0]
				if impl.IsGroup(swapped) {
					t.Fatalf("with the Elements 0 and %d of %v exchanged", i, g)
				}
			}
		}
	})
}

func TestGroupOf(t *testing.T) {
	swap, flip := impl.Matrix{{0, 1}, {1, 0}}, impl.Matrix{{2, 0}, {0, 1}}
	square := groupWith(3, 2,
		impl.Matrix{{0, 1}, {1, 0}}, impl.Matrix{{0, 1}, {2, 0}}, impl.Matrix{{0, 2}, {1, 0}}, impl.Matrix{{0, 2}, {2, 0}},
		impl.Matrix{{1, 0}, {0, 1}}, impl.Matrix{{1, 0}, {0, 2}}, impl.Matrix{{2, 0}, {0, 1}}, impl.Matrix{{2, 0}, {0, 2}})
	for _, list := range [][]impl.Matrix{
		{swap, flip}, {flip, swap}, {swap, swap, flip, swap}, square.Elements,
		{impl.Matrix{{0, 1}, {2, 0}}, flip}, slices.Repeat([]impl.Matrix{flip, swap, unitOf(2)}, 1000),
	} {
		g, code := impl.GroupOf(3, 2, list)
		wantGroup(t, fmt.Sprintf("GroupOf(3, 2, %v)", list), g, code, square)
	}
	for _, p := range primes {
		for n := int64(1); n <= 3; n++ {
			for _, list := range [][]impl.Matrix{nil, {}, {unitOf(n)}, {unitOf(n), unitOf(n)}} {
				g, code := impl.GroupOf(p, n, list)
				wantGroup(t, fmt.Sprintf("GroupOf(%d, %d, %v)", p, n, list), g, code, groupWith(p, n, unitOf(n)))
			}
		}
	}
	g, code := impl.GroupOf(13, 1, []impl.Matrix{{{5}}})
	wantGroup(t, "GroupOf powers", g, code, groupWith(13, 1, impl.Matrix{{1}}, impl.Matrix{{5}}, impl.Matrix{{8}}, impl.Matrix{{12}}))
}

// TestGroupOfLimit makes groups of exactly MaxOrder elements and of one more, from few matrices,
// from all of them, and from matrices that are many themselves.
func TestGroupOfLimit(t *testing.T) {
	full := groupWith(7, 2, closedList(7, 2, []impl.Matrix{cycle48}, impl.MaxOrder)...)
	if len(full.Elements) != impl.MaxOrder {
		t.Fatalf("%d powers", len(full.Elements))
	}
	for _, list := range [][]impl.Matrix{{cycle48}, full.Elements, slices.Concat(full.Elements, full.Elements)} {
		g, code := impl.GroupOf(7, 2, list)
		wantGroup(t, "GroupOf 48", g, code, full)
	}
	all := closedList(3, 2, []impl.Matrix{{{0, 1}, {1, 0}}, {{1, 1}, {0, 1}}, {{2, 0}, {0, 1}}}, impl.MaxOrder)
	g, code := impl.GroupOf(3, 2, []impl.Matrix{{{0, 1}, {1, 0}}, {{1, 1}, {0, 1}}, {{2, 0}, {0, 1}}})
	wantGroup(t, "GroupOf all matrices", g, code, groupWith(3, 2, all...))
	if len(all) != impl.MaxOrder {
		t.Fatalf("%d matrices", len(all))
	}
	tooMany := [][]impl.Matrix{
		{{{1, 1, 0}, {0, 1, 0}, {0, 0, 1}}, {{1, 0, 1}, {0, 1, 0}, {0, 0, 1}}},
		unipotents(7),
		unipotents(7)[:48],
		unipotents(7)[1:],
		slices.Repeat(unipotents(7)[:8], 100),
		{{{0, 1, 0}, {0, 0, 1}, {3, 0, 1}}},
		unipotents(13),
	}
	for _, list := range tooMany {
		p := int64(7)
		if len(list) == 169 {
			p = 13
		}
		g, code := impl.GroupOf(p, 3, list)
		wantNoGroup(t, fmt.Sprintf("GroupOf(%d, 3, %v)", p, list), g, code, impl.ErrLimit)
	}
	g, code = impl.GroupOf(13, 2, []impl.Matrix{{{2, 0}, {0, 1}}, {{1, 0}, {0, 8}}, {{0, 1}, {1, 0}}})
	wantNoGroup(t, "GroupOf 288", g, code, impl.ErrLimit)
}

func TestGroupOfErrors(t *testing.T) {
	for _, c := range noMatrices() {
		g, code := impl.GroupOf(c.p, c.n, []impl.Matrix{c.g})
		wantNoGroup(t, "GroupOf "+c.why, g, code, impl.ErrRange)
		g, code = impl.GroupOf(c.p, c.n, []impl.Matrix{unitOf(c.n % 4), c.g, unitOf(c.n % 4)})
		wantNoGroup(t, "GroupOf unit and "+c.why, g, code, impl.ErrRange)
	}
	for _, p := range noPrimes {
		g, code := impl.GroupOf(p, 2, nil)
		wantNoGroup(t, fmt.Sprintf("GroupOf for %d", p), g, code, impl.ErrRange)
	}
	for _, n := range []int64{math.MinInt64, -1, 0, 4, 256, 257, math.MaxInt64} {
		g, code := impl.GroupOf(5, n, nil)
		wantNoGroup(t, fmt.Sprintf("GroupOf of the size %d", n), g, code, impl.ErrRange)
	}
	// A matrix behind too many is looked at before they are found to be too many.
	g, code := impl.GroupOf(7, 3, append(unipotents(7), impl.Matrix{}))
	wantNoGroup(t, "GroupOf too many and no matrix", g, code, impl.ErrRange)
	g, code = impl.GroupOf(5, 3, unipotents(7))
	wantNoGroup(t, "GroupOf for another prime", g, code, impl.ErrRange)
	g, code = impl.GroupOf(7, 2, unipotents(7))
	wantNoGroup(t, "GroupOf for another size", g, code, impl.ErrRange)
}

func TestNamedGroup(t *testing.T) {
	orders := map[string][]int{ // for 2, and for the other primes
		"point": {1, 1}, "sign": {1, 2}, "minus": {1, 2}, "swap": {2, 2}, "signs": {1, 4}, "square": {2, 8},
		"triangle": {6, 6}, "turn": {3, 3}, "symmetric": {6, 6}, "cube": {6, 48},
	}
	for _, p := range primes {
		for _, name := range groupNames {
			g := named(t, name, p)
			want := orders[name][min(p-2, 1)]
			if len(g.Elements) != want || !impl.IsGroup(g) || g.Prime != p {
				t.Errorf("NamedGroup(%q, %d) = %v, want %d elements", name, p, g, want)
			}
		}
		g, code := impl.NamedGroup("point", p)
		wantGroup(t, "point", g, code, groupWith(p, 1, unitOf(1)))
	}
	for _, p := range primes[1:] {
		m := byte(p - 1)
		list := map[string]impl.Group{
			"sign":  groupWith(p, 1, impl.Matrix{{1}}, impl.Matrix{{m}}),
			"minus": groupWith(p, 2, unitOf(2), impl.Matrix{{m, 0}, {0, m}}),
			"swap":  groupWith(p, 2, impl.Matrix{{0, 1}, {1, 0}}, unitOf(2)),
			"signs": groupWith(p, 2, unitOf(2), impl.Matrix{{1, 0}, {0, m}}, impl.Matrix{{m, 0}, {0, 1}}, impl.Matrix{{m, 0}, {0, m}}),
			"square": groupWith(p, 2,
				impl.Matrix{{0, 1}, {1, 0}}, impl.Matrix{{0, 1}, {m, 0}}, impl.Matrix{{0, m}, {1, 0}}, impl.Matrix{{0, m}, {m, 0}},
				unitOf(2), impl.Matrix{{1, 0}, {0, m}}, impl.Matrix{{m, 0}, {0, 1}}, impl.Matrix{{m, 0}, {0, m}}),
			"triangle": groupWith(p, 2,
				impl.Matrix{{0, 1}, {1, 0}}, impl.Matrix{{0, m}, {1, m}}, unitOf(2),
				impl.Matrix{{1, m}, {0, m}}, impl.Matrix{{m, 0}, {m, 1}}, impl.Matrix{{m, 1}, {m, 0}}),
			"turn": groupWith(p, 3, impl.Matrix{{0, 0, 1}, {1, 0, 0}, {0, 1, 0}}, impl.Matrix{{0, 1, 0}, {0, 0, 1}, {1, 0, 0}}, unitOf(3)),
			"symmetric": groupWith(p, 3,
				impl.Matrix{{0, 0, 1}, {0, 1, 0}, {1, 0, 0}}, impl.Matrix{{0, 0, 1}, {1, 0, 0}, {0, 1, 0}},
				impl.Matrix{{0, 1, 0}, {0, 0, 1}, {1, 0, 0}}, impl.Matrix{{0, 1, 0}, {1, 0, 0}, {0, 0, 1}},
				impl.Matrix{{1, 0, 0}, {0, 0, 1}, {0, 1, 0}}, unitOf(3)),
		}
		for name, want := range list {
			g, code := impl.NamedGroup(name, p)
			wantGroup(t, fmt.Sprintf("NamedGroup(%q, %d)", name, p), g, code, want)
		}
	}
}

// TestNamedCube finds in each Element of the cube one sign in each row and in each column.
func TestNamedCube(t *testing.T) {
	for _, p := range primes[1:] {
		for _, x := range named(t, "cube", p).Elements {
			inColumn := [3]int{}
			for _, row := range x {
				inRow := 0
				for j, number := range row {
					if number != 0 {
						inRow++
						inColumn[j]++
					}
					if number != 0 && number != 1 && int64(number) != p-1 {
						t.Errorf("%v is no Element of the cube", x)
					}
				}
				if inRow != 1 {
					t.Errorf("%v is no Element of the cube", x)
				}
			}
			if inColumn != [3]int{1, 1, 1} {
				t.Errorf("%v is no Element of the cube", x)
			}
		}
	}
}

func TestNamedGroupErrors(t *testing.T) {
	names := []string{"", " ", "0", "Point", "POINT", "poin", "points", " point", "point ", "sign\n", "sig", "min", "swaps",
		"squar", "squares", "tri", "triangles", "turns", "symmetri", "symmetrical", "cub", "cubes", "c\x00ube", "cube\x00",
		"even", "all", "zero", "repeat", "unit", "none", "signsquare", strings.Repeat("cube", 1000), "\xff"}
	for _, name := range names {
		for _, p := range primes {
			g, code := impl.NamedGroup(name, p)
			wantNoGroup(t, fmt.Sprintf("NamedGroup(%q, %d)", name, p), g, code, impl.ErrNotFound)
		}
	}
	for _, p := range noPrimes {
		for _, name := range slices.Concat(groupNames, names) {
			g, code := impl.NamedGroup(name, p)
			wantNoGroup(t, fmt.Sprintf("NamedGroup(%q, %d)", name, p), g, code, impl.ErrRange)
		}
	}
}

func TestIsModular(t *testing.T) {
	modular := map[string][]int64{
		"swap": {2}, "square": {2}, "triangle": {2, 3}, "turn": {3}, "symmetric": {2, 3}, "cube": {2, 3},
	}
	for _, name := range groupNames {
		for _, p := range primes {
			want := slices.Contains(modular[name], p)
			if yes, code := impl.IsModular(named(t, name, p)); yes != want || code != impl.ErrNone {
				t.Errorf("IsModular of %q for %d = %v, %d", name, p, yes, code)
			}
		}
	}
	if yes, code := impl.IsModular(groupWith(5, 3, unipotents(5)...)); !yes || code != impl.ErrNone {
		t.Errorf("IsModular of 25 unipotent matrices = %v, %d", yes, code)
	}
	for why, g := range noGroups() {
		if yes, code := impl.IsModular(g); yes || code != impl.ErrInvalid {
			t.Errorf("IsModular of %s = %v, %d", why, yes, code)
		}
	}
}

func TestClassesOf(t *testing.T) {
	good := []struct {
		name string
		p    int64
		want [][]int64
	}{
		{"point", 2, [][]int64{{0}}},
		{"sign", 2, [][]int64{{0}}},
		{"sign", 3, [][]int64{{0}, {1}}},
		{"square", 3, [][]int64{{0, 3}, {1, 2}, {4}, {5, 6}, {7}}},
		{"triangle", 5, [][]int64{{0, 3, 4}, {1, 5}, {2}}},
		{"turn", 3, [][]int64{{0}, {1}, {2}}},
		{"symmetric", 7, [][]int64{{0, 3, 4}, {1, 2}, {5}}},
		{"signs", 13, [][]int64{{0}, {1}, {2}, {3}}},
	}
	for _, c := range good {
		classes, code := impl.ClassesOf(named(t, c.name, c.p))
		wantLists(t, fmt.Sprintf("ClassesOf %q for %d", c.name, c.p), classes, code, c.want, impl.ErrNone)
	}
	if classes, code := impl.ClassesOf(named(t, "cube", 11)); len(classes) != 10 || code != impl.ErrNone {
		t.Errorf("ClassesOf the cube = %v, %d", classes, code)
	}
	for why, g := range noGroups() {
		classes, code := impl.ClassesOf(g)
		wantLists(t, "ClassesOf "+why, classes, code, nil, impl.ErrInvalid)
	}
}

func TestCentreOf(t *testing.T) {
	minus := impl.Matrix{{4, 0, 0}, {0, 4, 0}, {0, 0, 4}}
	good := []struct {
		g    impl.Group
		want impl.Group
	}{
		{named(t, "point", 2), groupWith(2, 1, unitOf(1))},
		{named(t, "square", 3), groupWith(3, 2, unitOf(2), impl.Matrix{{2, 0}, {0, 2}})},
		{named(t, "square", 2), named(t, "square", 2)},
		{named(t, "triangle", 2), groupWith(2, 2, unitOf(2))},
		{named(t, "symmetric", 13), groupWith(13, 3, unitOf(3))},
		{named(t, "cube", 5), groupWith(5, 3, unitOf(3), minus)},
		{named(t, "signs", 11), named(t, "signs", 11)},
		{groupWith(5, 3, unipotents(5)...), groupWith(5, 3, unipotents(5)...)},
	}
	for _, c := range good {
		g, code := impl.CentreOf(c.g)
		wantGroup(t, fmt.Sprintf("CentreOf(%v)", c.g), g, code, c.want)
	}
	for why, g := range noGroups() {
		centre, code := impl.CentreOf(g)
		wantNoGroup(t, "CentreOf "+why, centre, code, impl.ErrInvalid)
	}
}

// shears has the powers of the matrix that adds the number 0 of a point to its number 1.
func shears(p int64) impl.Group {
	g := groupWith(p, 2)
	for a := range p {
		g.Elements = append(g.Elements, impl.Matrix{{1, byte(a)}, {0, 1}})
	}
	return g
}

func TestOrbitOfPoint(t *testing.T) {
	good := []struct {
		g     impl.Group
		point []int64
		want  [][]int64
	}{
		{named(t, "point", 2), []int64{0}, [][]int64{{0}}},
		{named(t, "point", 13), []int64{12}, [][]int64{{12}}},
		{named(t, "sign", 13), []int64{12}, [][]int64{{1}, {12}}},
		{named(t, "sign", 13), []int64{0}, [][]int64{{0}}},
		{named(t, "square", 3), []int64{1, 0}, [][]int64{{0, 1}, {0, 2}, {1, 0}, {2, 0}}},
		{named(t, "square", 5), []int64{1, 2}, [][]int64{{1, 2}, {1, 3}, {2, 1}, {2, 4}, {3, 1}, {3, 4}, {4, 2}, {4, 3}}},
		{named(t, "turn", 5), []int64{1, 2, 3}, [][]int64{{1, 2, 3}, {2, 3, 1}, {3, 1, 2}}},
		{named(t, "turn", 5), []int64{4, 4, 4}, [][]int64{{4, 4, 4}}},
		{named(t, "cube", 11), []int64{0, 0, 3}, [][]int64{{0, 0, 3}, {0, 0, 8}, {0, 3, 0}, {0, 8, 0}, {3, 0, 0}, {8, 0, 0}}},
		{named(t, "triangle", 7), []int64{1, 0}, [][]int64{{0, 1}, {0, 6}, {1, 0}, {1, 6}, {6, 0}, {6, 1}}},
		{shears(3), []int64{1, 0}, [][]int64{{1, 0}, {1, 1}, {1, 2}}},
		{shears(3), []int64{0, 1}, [][]int64{{0, 1}}},
		{shears(13), []int64{0, 12}, [][]int64{{0, 12}}},
	}
	for _, c := range good {
		orbit, code := impl.OrbitOfPoint(c.g, c.point)
		wantLists(t, fmt.Sprintf("OrbitOfPoint(%v, %v)", c.g, c.point), orbit, code, c.want, impl.ErrNone)
	}
	for why, g := range noGroups() {
		for _, point := range [][]int64{{1, 0}, {1}, nil, {-1, 7}} {
			orbit, code := impl.OrbitOfPoint(g, point)
			wantLists(t, "OrbitOfPoint of "+why, orbit, code, nil, impl.ErrInvalid)
		}
	}
	for _, name := range groupNames {
		g := named(t, name, 5)
		for _, point := range noPointsFor(5, g.Size) {
			orbit, code := impl.OrbitOfPoint(g, point)
			wantLists(t, fmt.Sprintf("OrbitOfPoint of %q, %v", name, point), orbit, code, nil, impl.ErrRange)
		}
	}
}

func TestStabiliserOf(t *testing.T) {
	good := []struct {
		g     impl.Group
		point []int64
		want  impl.Group
	}{
		{named(t, "point", 2), []int64{1}, named(t, "point", 2)},
		{named(t, "sign", 7), []int64{0}, named(t, "sign", 7)},
		{named(t, "sign", 7), []int64{6}, named(t, "point", 7)},
		{named(t, "square", 3), []int64{1, 0}, groupWith(3, 2, unitOf(2), impl.Matrix{{1, 0}, {0, 2}})},
		{named(t, "square", 3), []int64{0, 0}, named(t, "square", 3)},
		{named(t, "square", 5), []int64{2, 2}, named(t, "swap", 5)},
		{named(t, "square", 5), []int64{1, 2}, groupWith(5, 2, unitOf(2))},
		{named(t, "symmetric", 3), []int64{1, 1, 2}, groupWith(3, 3, impl.Matrix{{0, 1, 0}, {1, 0, 0}, {0, 0, 1}}, unitOf(3))},
		{named(t, "cube", 11), []int64{1, 2, 3}, groupWith(11, 3, unitOf(3))},
		{shears(3), []int64{1, 0}, groupWith(3, 2, unitOf(2))},
		{shears(3), []int64{0, 2}, shears(3)},
	}
	for _, c := range good {
		g, code := impl.StabiliserOf(c.g, c.point)
		wantGroup(t, fmt.Sprintf("StabiliserOf(%v, %v)", c.g, c.point), g, code, c.want)
	}
	for why, g := range noGroups() {
		for _, point := range [][]int64{{1, 0}, {1}, nil, {-1, 7}} {
			stabiliser, code := impl.StabiliserOf(g, point)
			wantNoGroup(t, "StabiliserOf "+why, stabiliser, code, impl.ErrInvalid)
		}
	}
	for _, name := range groupNames {
		g := named(t, name, 5)
		for _, point := range noPointsFor(5, g.Size) {
			stabiliser, code := impl.StabiliserOf(g, point)
			wantNoGroup(t, fmt.Sprintf("StabiliserOf %q, %v", name, point), stabiliser, code, impl.ErrRange)
		}
	}
}

func TestSubgroupOf(t *testing.T) {
	square := named(t, "square", 3)
	good := []struct {
		list []int64
		want []int64
	}{
		{nil, []int64{4}},
		{[]int64{}, []int64{4}},
		{[]int64{4}, []int64{4}},
		{[]int64{0}, []int64{0, 4}},
		{[]int64{1}, []int64{1, 2, 4, 7}},
		{[]int64{7}, []int64{4, 7}},
		{[]int64{0, 3}, []int64{0, 3, 4, 7}},
		{[]int64{5, 6}, []int64{4, 5, 6, 7}},
		{[]int64{6, 0}, []int64{0, 1, 2, 3, 4, 5, 6, 7}},
		{[]int64{7, 6, 5, 4, 3, 2, 1, 0}, []int64{0, 1, 2, 3, 4, 5, 6, 7}},
		{slices.Repeat([]int64{7, 4}, 5000), []int64{4, 7}},
	}
	for _, c := range good {
		want := groupWith(3, 2)
		for _, number := range c.want {
			want.Elements = append(want.Elements, square.Elements[number])
		}
		g, code := impl.SubgroupOf(square, c.list)
		wantGroup(t, fmt.Sprintf("SubgroupOf(square, %v)", c.list), g, code, want)
	}
	for _, list := range [][]int64{{-1}, {8}, {0, 8}, {8, 0}, {0, 1, 2, 3, -1}, {256}, {math.MinInt64}, {math.MaxInt64}} {
		g, code := impl.SubgroupOf(square, list)
		wantNoGroup(t, fmt.Sprintf("SubgroupOf(square, %v)", list), g, code, impl.ErrRange)
	}
	cube := named(t, "cube", 3)
	g, code := impl.SubgroupOf(cube, []int64{47})
	if code != impl.ErrNone || !slices.Contains(g.Elements, cube.Elements[47]) {
		t.Errorf("SubgroupOf the last Element = %v, %d", g, code)
	}
	g, code = impl.SubgroupOf(cube, []int64{48})
	wantNoGroup(t, "SubgroupOf behind the last Element", g, code, impl.ErrRange)
	for why, g := range noGroups() {
		for _, list := range [][]int64{nil, {0}, {-1}, {1000}} {
			subgroup, code := impl.SubgroupOf(g, list)
			wantNoGroup(t, "SubgroupOf "+why, subgroup, code, impl.ErrInvalid)
		}
	}
}

func TestConjugateGroup(t *testing.T) {
	good := []struct {
		g    impl.Group
		m    impl.Matrix
		want impl.Group
	}{
		{named(t, "point", 13), impl.Matrix{{5}}, named(t, "point", 13)},
		{named(t, "sign", 13), impl.Matrix{{7}}, named(t, "sign", 13)},
		{named(t, "square", 3), unitOf(2), named(t, "square", 3)},
		{named(t, "square", 3), impl.Matrix{{0, 1}, {2, 0}}, named(t, "square", 3)},
		// The swap becomes 1, -1 and 0, 1 times the rows 0, 1 and 1, 0 times 1, 1 and 0, 1.
		{named(t, "swap", 5), impl.Matrix{{1, 1}, {0, 1}}, groupWith(5, 2, unitOf(2), impl.Matrix{{4, 0}, {1, 1}})},
		{named(t, "swap", 5), impl.Matrix{{2, 0}, {0, 1}}, groupWith(5, 2, impl.Matrix{{0, 3}, {2, 0}}, unitOf(2))},
		{named(t, "swap", 5), impl.Matrix{{1, 0}, {0, 2}}, groupWith(5, 2, impl.Matrix{{0, 2}, {3, 0}}, unitOf(2))},
		{shears(3), impl.Matrix{{0, 1}, {1, 0}}, groupWith(3, 2, unitOf(2), impl.Matrix{{1, 0}, {1, 1}}, impl.Matrix{{1, 0}, {2, 1}})},
	}
	for _, c := range good {
		g, code := impl.ConjugateGroup(c.g, c.m)
		wantGroup(t, fmt.Sprintf("ConjugateGroup(%v, %v)", c.g, c.m), g, code, c.want)
	}
	for why, g := range noGroups() {
		for _, m := range []impl.Matrix{unitOf(2), {}, {{9}}} {
			conjugate, code := impl.ConjugateGroup(g, m)
			wantNoGroup(t, "ConjugateGroup of "+why, conjugate, code, impl.ErrInvalid)
		}
	}
	sizes := []string{"sign", "swap", "turn"}
	for _, c := range noMatrices() {
		if c.n >= 1 && c.n <= 3 && slices.Contains(primes, c.p) {
			g, code := impl.ConjugateGroup(named(t, sizes[c.n-1], c.p), c.g)
			wantNoGroup(t, "ConjugateGroup by "+c.why, g, code, impl.ErrRange)
		}
	}
}
