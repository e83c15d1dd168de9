package tests

import (
	"fmt"
	"math"
	"math/rand"
	"slices"
	"testing"

	"loop.example/g01285/impl"
)

func TestReflectionLimit(t *testing.T) {
	if impl.MaxForms != 12 {
		t.Errorf("limit %d", impl.MaxForms)
	}
}

// reflectionCase is a matrix with its mirror, and for a reflection with its root and the text of its form.
type reflectionCase struct {
	p, n   int64
	g      impl.Matrix
	root   []int64
	form   string
	mirror [][]int64
}

func reflectionCases() []reflectionCase {
	turn := impl.Matrix{{0, 1, 0}, {0, 0, 1}, {1, 0, 0}}
	return []reflectionCase{
		// Of the order 2.
		{5, 2, impl.Matrix{{0, 1}, {1, 0}}, []int64{1, 4}, "1x+4y", [][]int64{{1, 1}}},
		{5, 2, impl.Matrix{{0, 4}, {4, 0}}, []int64{1, 1}, "1x+1y", [][]int64{{1, 4}}},
		{5, 2, impl.Matrix{{4, 0}, {0, 1}}, []int64{1, 0}, "1x", [][]int64{{0, 1}}},
		{7, 2, impl.Matrix{{1, 3}, {0, 6}}, []int64{0, 1}, "1x+4y", [][]int64{{1, 5}}},
		{3, 1, impl.Matrix{{2}}, []int64{1}, "1x", nil},
		{7, 3, impl.Matrix{{0, 1, 0}, {1, 0, 0}, {0, 0, 1}}, []int64{1, 6, 0}, "1x+6y", [][]int64{{1, 1, 0}, {0, 0, 1}}},
		{7, 3, impl.Matrix{{0, 0, 1}, {0, 1, 0}, {1, 0, 0}}, []int64{1, 0, 6}, "1x+6z", [][]int64{{1, 0, 1}, {0, 1, 0}}},
		{7, 3, impl.Matrix{{1, 0, 0}, {0, 0, 1}, {0, 1, 0}}, []int64{0, 1, 6}, "1y+6z", [][]int64{{1, 0, 0}, {0, 1, 1}}},
		{5, 3, impl.Matrix{{1, 0, 0}, {0, 1, 0}, {0, 0, 4}}, []int64{0, 0, 1}, "1z", [][]int64{{1, 0, 0}, {0, 1, 0}}},
		// Of greater orders.
		{13, 1, impl.Matrix{{2}}, []int64{1}, "1x", nil},
		{5, 2, impl.Matrix{{1, 0}, {0, 2}}, []int64{0, 1}, "1y", [][]int64{{1, 0}}},
		{7, 2, impl.Matrix{{3, 2}, {0, 1}}, []int64{1, 1}, "1x", [][]int64{{0, 1}}},
		{7, 2, impl.Matrix{{1, 0}, {2, 3}}, []int64{1, 1}, "1y", [][]int64{{1, 0}}},
		{7, 2, impl.Matrix{{2, 0}, {3, 1}}, []int64{1, 0}, "1x+3y", [][]int64{{1, 2}}},
		// Of the order p.
		{2, 2, impl.Matrix{{0, 1}, {1, 0}}, []int64{1, 1}, "1x+1y", [][]int64{{1, 1}}},
		{5, 2, impl.Matrix{{1, 1}, {0, 1}}, []int64{0, 1}, "1x", [][]int64{{0, 1}}},
		{5, 2, impl.Matrix{{1, 3}, {0, 1}}, []int64{0, 1}, "1x", [][]int64{{0, 1}}},
		{5, 2, impl.Matrix{{1, 0}, {1, 1}}, []int64{1, 0}, "1y", [][]int64{{1, 0}}},
		{5, 3, impl.Matrix{{1, 2, 3}, {0, 1, 0}, {0, 0, 1}}, []int64{0, 1, 4}, "1x", [][]int64{{0, 1, 0}, {0, 0, 1}}},
		{5, 3, impl.Matrix{{1, 0, 2}, {0, 1, 1}, {0, 0, 1}}, []int64{0, 0, 1}, "1x+3y", [][]int64{{1, 3, 0}, {0, 0, 1}}},
		{13, 3, impl.Matrix{{1, 0, 0}, {5, 1, 10}, {0, 0, 1}}, []int64{1, 0, 2}, "1y", [][]int64{{1, 0, 0}, {0, 0, 1}}},
		{2, 3, impl.Matrix{{0, 1, 0}, {1, 0, 0}, {1, 1, 1}}, []int64{1, 1, 0}, "1x+1y+1z", [][]int64{{1, 0, 1}, {0, 1, 1}}},
		// The unit changes no point.
		{2, 1, unitOf(1), nil, "", [][]int64{{1}}},
		{13, 1, unitOf(1), nil, "", [][]int64{{1}}},
		{5, 2, unitOf(2), nil, "", [][]int64{{1, 0}, {0, 1}}},
		{11, 3, unitOf(3), nil, "", [][]int64{{1, 0, 0}, {0, 1, 0}, {0, 0, 1}}},
		// These change a space of two dimensions, or of three.
		{3, 2, impl.Matrix{{2, 0}, {0, 2}}, nil, "", nil},
		{5, 2, impl.Matrix{{0, 1}, {4, 0}}, nil, "", nil},
		{2, 2, impl.Matrix{{0, 1}, {1, 1}}, nil, "", nil},
		{3, 2, impl.Matrix{{2, 1}, {0, 2}}, nil, "", nil},
		{7, 3, turn, nil, "", [][]int64{{1, 1, 1}}},
		{3, 3, turn, nil, "", [][]int64{{1, 1, 1}}},
		{2, 3, impl.Matrix{{1, 1, 0}, {0, 1, 1}, {0, 0, 1}}, nil, "", [][]int64{{0, 0, 1}}},
		{5, 3, impl.Matrix{{1, 0, 0}, {0, 4, 0}, {0, 0, 4}}, nil, "", [][]int64{{1, 0, 0}}},
		{5, 3, impl.Matrix{{1, 0, 0}, {1, 4, 0}, {2, 0, 4}}, nil, "", [][]int64{{1, 0, 0}}},
		{5, 3, impl.Matrix{{4, 0, 0}, {0, 4, 0}, {0, 0, 4}}, nil, "", nil},
	}
}

func TestReflections(t *testing.T) {
	for _, c := range reflectionCases() {
		what := fmt.Sprintf("(%d, %d, %v)", c.p, c.n, c.g)
		yes, code := impl.IsReflection(c.p, c.n, c.g)
		wantBool(t, "IsReflection"+what, yes, code, len(c.root) > 0)
		mirror, code := impl.MirrorOf(c.p, c.n, c.g)
		wantLists(t, "MirrorOf"+what, mirror, code, c.mirror, impl.ErrNone)
		root, code := impl.RootOfReflection(c.p, c.n, c.g)
		form, other := impl.FormOfReflection(c.p, c.n, c.g)
		if len(c.root) == 0 {
			wantNumbers(t, "RootOfReflection"+what, root, code, nil, impl.ErrState)
			wantNoPoly(t, "FormOfReflection"+what, form, other, impl.ErrState)
			continue
		}
		wantNumbers(t, "RootOfReflection"+what, root, code, c.root, impl.ErrNone)
		wantPoly(t, "FormOfReflection"+what, form, other, parsed(t, c.p, c.n, c.form))
	}
}

// TestReflectionsErrors gives what is no matrix, and primes and sizes that are none.
func TestReflectionsErrors(t *testing.T) {
	cases := noMatrices()
	for _, n := range []int64{math.MinInt64, -256, -1, 0, 4, 5, 255, 256, 257, 1 << 32, math.MaxInt64} {
		for most := int64(0); most <= 3; most++ {
			cases = append(cases, noMatrix{fmt.Sprint("the size ", n), 5, n, unitOf(most)})
			cases = append(cases, noMatrix{fmt.Sprint("the size ", n), 4, n, unitOf(most)})
		}
	}
	for _, p := range noPrimes {
		cases = append(cases, noMatrix{fmt.Sprint("the prime ", p), p, 2, impl.Matrix{{0, 1}, {1, 0}}})
		cases = append(cases, noMatrix{fmt.Sprint("the prime ", p), p, 2, impl.Matrix{{1, 1}, {0, 1}}})
		cases = append(cases, noMatrix{fmt.Sprint("the prime ", p), p, 0, impl.Matrix{}})
	}
	// These would change points by the multiples of one, but have no inverse.
	cases = append(cases,
		noMatrix{"less the first letter", 5, 2, impl.Matrix{{0, 0}, {0, 1}}},
		noMatrix{"less the last letter", 5, 3, impl.Matrix{{1, 0, 0}, {0, 1, 0}, {0, 0, 0}}},
		noMatrix{"the letters alike", 7, 2, impl.Matrix{{1, 0}, {1, 0}}},
	)
	for _, c := range cases {
		yes, code := impl.IsReflection(c.p, c.n, c.g)
		wantZero(t, "IsReflection: "+c.why, !yes, code, impl.ErrRange)
		root, code := impl.RootOfReflection(c.p, c.n, c.g)
		wantZero(t, "RootOfReflection: "+c.why, len(root) == 0, code, impl.ErrRange)
		form, code := impl.FormOfReflection(c.p, c.n, c.g)
		wantNoPoly(t, "FormOfReflection: "+c.why, form, code, impl.ErrRange)
		mirror, code := impl.MirrorOf(c.p, c.n, c.g)
		wantZero(t, "MirrorOf: "+c.why, len(mirror) == 0, code, impl.ErrRange)
	}
}

func TestReflectionsOf(t *testing.T) {
	good := []struct {
		g    impl.Group
		want []int64
	}{
		{named(t, "point", 5), nil},
		{named(t, "sign", 2), nil},
		{named(t, "sign", 3), []int64{1}},
		{named(t, "minus", 5), nil},
		{named(t, "minus", 2), nil},
		{named(t, "swap", 5), []int64{0}},
		{named(t, "swap", 2), []int64{0}},
		{named(t, "signs", 3), []int64{1, 2}},
		{named(t, "signs", 2), nil},
		{named(t, "square", 3), []int64{0, 3, 5, 6}},
		{named(t, "turn", 7), nil},
		{named(t, "turn", 3), nil},
		{named(t, "symmetric", 7), []int64{0, 3, 4}},
		{named(t, "symmetric", 2), []int64{0, 3, 4}},
		{groupWith(13, 1, unitOf(1)), nil},
		{groupWith(13, 3, unitOf(3)), nil},
		{shears(3), []int64{1, 2}},
		{powersOf(13, 2), []int64{1, 2, 3, 4, 5, 6, 7, 8, 9, 10, 11}},
		{powersOf(13, 5), []int64{1, 2, 3}},
		{multiplesOf(7, 2, 3), nil},
		{diagonalGroup(7, 2, 1), []int64{1, 2}},
		{diagonalGroup(7, 1, 2), []int64{1, 2}},
		// The matrix with 4 and 1 is the only one that leaves a letter, behind those with 1, 2 and 3.
		{diagonalGroup(5, 2, 4), []int64{3}},
		{groupWith(2, 3, unipotents(2)...), []int64{1, 2, 3}},
	}
	for _, c := range good {
		numbers, code := impl.ReflectionsOf(c.g)
		wantNumbers(t, fmt.Sprintf("ReflectionsOf(%v)", c.g), numbers, code, c.want, impl.ErrNone)
	}
}

// TestCountsOfReflections counts them in greater groups.
func TestCountsOfReflections(t *testing.T) {
	cases := []struct {
		what        string
		g           impl.Group
		order, want int
	}{
		{"triangle for 5", named(t, "triangle", 5), 6, 3},
		{"triangle for 2", named(t, "triangle", 2), 6, 3},
		{"triangle for 3", named(t, "triangle", 3), 6, 5},
		{"cube for 11", named(t, "cube", 11), 48, 9},
		{"cube for 3", named(t, "cube", 3), 48, 9},
		{"cube for 2", named(t, "cube", 2), 6, 3},
		{"all matrices modulo 3", greatLinear(), 48, 20},
		{"determinants 1 modulo 3", specialLinear(), 24, 8},
		{"unipotents for 5", groupWith(5, 3, unipotents(5)...), 25, 24},
		{"unipotents for 5 overturned", overturned(groupWith(5, 3, unipotents(5)...)), 25, 24},
		{"shears for 13", shears(13), 13, 12},
		{"dihedral of 24", dihedral24(), 24, 12},
		{"dihedral of 26", dihedral26(), 26, 25},
		{"two diagonals", twoDiagonals(13, 2, 3), 36, 13},
		{"signed turns", signedTurns(5), 24, 3},
		{"powers of the order 48", madeOf(7, 2, cycle48), 48, 0},
	}
	for _, c := range cases {
		numbers, code := impl.ReflectionsOf(c.g)
		if code != impl.ErrNone || len(numbers) != c.want || len(c.g.Elements) != c.order {
			t.Errorf("ReflectionsOf %s: %v, %d among %d; want %d", c.what, numbers, code, len(c.g.Elements), c.want)
		}
	}
}

// madeCase is a group with the group of its reflections.
type madeCase struct {
	g, made impl.Group
}

func madeCases(t *testing.T) []madeCase {
	same := func(g impl.Group) madeCase { return madeCase{g, g} }
	none := func(g impl.Group) madeCase { return madeCase{g, groupWith(g.Prime, g.Size, unitOf(g.Size))} }
	list := []madeCase{
		none(multiplesOf(7, 2, 3)),
		none(madeOf(7, 2, cycle48)),
		none(madeOf(5, 2, impl.Matrix{{0, 1}, {4, 0}})),
		same(groupWith(7, 1, unitOf(1))),
		same(groupWith(7, 2, unitOf(2))),
		same(groupWith(7, 3, unitOf(3))),
		same(powersOf(13, 2)),
		same(shears(5)),
		same(overturned(shears(13))),
		same(groupWith(5, 3, unipotents(5)...)),
		same(greatLinear()),
		same(specialLinear()),
		same(dihedral24()),
		same(dihedral26()),
		same(twoDiagonals(13, 2, 3)),
		{diagonalGroup(5, 2, 4), groupWith(5, 2, unitOf(2), impl.Matrix{{4, 0}, {0, 1}})},
		{signedTurns(5), madeOf(5, 3, impl.Matrix{{4, 0, 0}, {0, 1, 0}, {0, 0, 1}}, impl.Matrix{{1, 0, 0}, {0, 4, 0}, {0, 0, 1}}, impl.Matrix{{1, 0, 0}, {0, 1, 0}, {0, 0, 4}})},
		// Of the powers of a shear times -1 only those of the shear are reflections.
		{madeOf(5, 2, impl.Matrix{{4, 4}, {0, 4}}), shears(5)},
		{madeOf(3, 2, impl.Matrix{{2, 1}, {0, 2}}), shears(3)},
	}
	for _, p := range primes {
		for _, name := range []string{"point", "sign", "swap", "signs", "square", "triangle", "symmetric", "cube"} {
			list = append(list, same(named(t, name, p)))
		}
		list = append(list, none(named(t, "minus", p)), none(named(t, "turn", p)))
	}
	return list
}

func TestReflectionGroups(t *testing.T) {
	for _, c := range madeCases(t) {
		made, code := impl.ReflectionGroup(c.g)
		wantGroup(t, fmt.Sprintf("ReflectionGroup(%v)", c.g), made, code, c.made)
		yes, code := impl.IsMadeByReflections(c.g)
		wantBool(t, fmt.Sprintf("IsMadeByReflections(%v)", c.g), yes, code, sameGroup(c.g, c.made))
	}
}

// TestReflectionsOfNoGroups gives what is no group to all functions, also together with degrees that are
// in no range.
func TestReflectionsOfNoGroups(t *testing.T) {
	for why, g := range noGroups() {
		numbers, code := impl.ReflectionsOf(g)
		wantZero(t, "ReflectionsOf: "+why, len(numbers) == 0, code, impl.ErrInvalid)
		made, code := impl.ReflectionGroup(g)
		wantNoGroup(t, "ReflectionGroup: "+why, made, code, impl.ErrInvalid)
		yes, code := impl.IsMadeByReflections(g)
		wantZero(t, "IsMadeByReflections: "+why, !yes, code, impl.ErrInvalid)
		product, code := impl.MirrorProduct(g)
		wantNoPoly(t, "MirrorProduct: "+why, product, code, impl.ErrInvalid)
		for _, degrees := range [][]int64{nil, {1}, {1, 2}, {1, 1, 1}, {0, 49}, {-1}, {1, 2, 3, 4}} {
			yes, code := impl.DoDegreesFit(g, degrees)
			wantZero(t, fmt.Sprintf("DoDegreesFit: %s, %v", why, degrees), !yes, code, impl.ErrInvalid)
		}
	}
}

func TestJacobianOf(t *testing.T) {
	good := []struct {
		p, d  int64
		texts string
		want  string
	}{
		{5, 1, "1x2", "2x"},
		{5, 1, "1x5", "0"},
		{5, 1, "1+1x", "1"},
		{5, 1, "0", "0"},
		{5, 1, "3", "0"},
		{13, 1, "1x12", "12x11"},
		{5, 2, "1x+1y 1xy", "1x+4y"},
		{5, 2, "1xy 1x+1y", "4x+1y"},
		{2, 2, "1xy 1x+1y", "1x+1y"},
		{5, 2, "1x2+1y2 1x2y2", "4x3y+1xy3"},
		{5, 2, "1x 1y", "1"},
		{5, 2, "1y 1x", "4"},
		{5, 2, "1x 1x", "0"},
		{5, 2, "1y+1x2 2y+2x2", "0"},
		{5, 2, "1x 1x2", "0"},
		{5, 2, "1x5 1y", "0"},
		{5, 2, "0 1y", "0"},
		{5, 2, "1x 0", "0"},
		{5, 2, "3 1x", "0"},
		{5, 2, "0 0", "0"},
		{5, 2, "1 4", "0"},
		{3, 2, "1+1x+1x2y 1y+2xy", "1+2x+2xy+2x2y"},
		{7, 3, "1x 1y 1z", "1"},
		{7, 3, "1y 1z 1x", "1"},
		{7, 3, "1z 1y 1x", "6"},
		{7, 3, "1y 1x 1z", "6"},
		{7, 3, "1x 1y 1x+1y", "0"},
		{7, 3, "1x+1y+1z 1xy+1xz+1yz 1xyz", "1x2y+6x2z+6xy2+1xz2+1y2z+6yz2"},
		{11, 3, "1x2 1y3 1z4", "2xy2z3"},
		{2, 3, "1 1 1", "0"},
		{2, 3, "0 0 0", "0"},
		{3, 3, "1x 1y 0", "0"},
		// The bound of the degree is MaxDegree.
		{7, 2, "1x12 1y2", "3x11y"},
		{7, 2, "1x11 1y3", "5x10y2"},
		{7, 2, "1x7 1y7", "0"},
		{2, 2, "1x7 1y7", "1x6y6"},
		{2, 3, "1x5 1y5 1z5", "1x4y4z4"},
		{5, 3, "1x5 1y5 1z5", "0"},
		{11, 3, "1x12 1y2 1z", "2x11y"},
		{11, 2, "1x12 0", "0"},
		{11, 2, "3 1y12", "0"},
		// Minors have a greater degree where a constant makes the bound less.
		{11, 3, "1x12 1y3 2", "0"},
		{11, 3, "2 1x12 1y3", "0"},
		{11, 3, "1y3 0 1x12", "0"},
		{11, 3, "0 1z8 1y7", "0"},
		{11, 3, "1x12 1 1", "0"},
	}
	for _, c := range good {
		f, code := impl.JacobianOf(splitPolys(t, c.p, c.d, c.texts))
		wantPoly(t, fmt.Sprintf("JacobianOf(%s)", c.texts), f, code, parsed(t, c.p, c.d, c.want))
	}
}

func TestJacobianOfErrors(t *testing.T) {
	x, y := built(5, 2, term(1, 1)), built(5, 2, term(1, 0, 1))
	ranges := map[string][]impl.Poly{
		"nil":                         nil,
		"none":                        {},
		"one for two letters":         {x},
		"three for two letters":       {x, y, x},
		"two for one letter":          {built(5, 1, term(1, 1)), built(5, 1, term(1, 2))},
		"two for three letters":       {built(5, 3, term(1, 1)), built(5, 3, term(1, 0, 1))},
		"one for three letters":       {built(5, 3, term(1, 1))},
		"four for three letters":      slices.Repeat([]impl.Poly{built(5, 3, term(1, 1))}, 4),
		"many":                        slices.Repeat([]impl.Poly{x}, 300),
		"another prime":               {x, built(7, 2, term(1, 0, 1))},
		"another prime of 0":          {x, built(7, 2)},
		"three letters":               {x, built(5, 3, term(1, 0, 1))},
		"one letter":                  {x, built(5, 1, term(1, 1))},
		"two letters of one":          {built(5, 1, term(1, 1)), x},
		"another prime at the end":    {built(5, 3), built(5, 3), built(3, 3)},
		"greater degrees of one":      {built(5, 2, term(1, 12))},
		"greater degrees, two primes": {built(5, 2, term(1, 12)), built(7, 2, term(1, 12))},
		"greater degrees of three":    slices.Repeat([]impl.Poly{built(5, 2, term(1, 12))}, 3),
	}
	for why, list := range ranges {
		f, code := impl.JacobianOf(list)
		wantNoPoly(t, "JacobianOf: "+why, f, code, impl.ErrRange)
	}
	for why, list := range noPolyLists() {
		f, code := impl.JacobianOf(list)
		wantNoPoly(t, "JacobianOf: "+why, f, code, impl.ErrInvalid)
	}
	limits := []struct {
		d     int64
		texts string
	}{
		{2, "1x12 1y3"},
		{2, "1x3 1y12"},
		{2, "1x8 1y7"},
		{2, "1x12 1x12"},
		{2, "1x12 1y12"},
		{2, "1+1x12 1+1x+1x3"},
		// The derivatives in one letter are 0.
		{2, "1x12 1x3"},
		{3, "1x6 1y5 1z5"},
		{3, "1x12 1y12 1z12"},
		{3, "1x12 1y4 1"},
		{3, "1x12 1y4 0"},
		{3, "0 1y8 1x8"},
		{3, "1x12 1y3 1z"},
	}
	for _, c := range limits {
		for _, p := range primes {
			f, code := impl.JacobianOf(splitPolys(t, p, c.d, c.texts))
			wantNoPoly(t, fmt.Sprintf("JacobianOf(%s) for %d", c.texts, p), f, code, impl.ErrLimit)
		}
	}
}

// fitCase is a group that is not modular with degrees that fit, or that do not.
type fitCase struct {
	g        impl.Group
	fit, not [][]int64
}

func fitCases(t *testing.T) []fitCase {
	// Behind those with one of both right there are some with none.
	list := []fitCase{
		{named(t, "sign", 5), [][]int64{{2}}, [][]int64{{1}, {3}, {48}}},
		{named(t, "minus", 5), nil, [][]int64{{1, 2}, {2, 1}, {1, 1}, {2, 2}, {1, 48}}},
		{named(t, "swap", 5), [][]int64{{1, 2}, {2, 1}}, [][]int64{{1, 1}, {2, 2}, {1, 3}}},
		{named(t, "signs", 3), [][]int64{{2, 2}}, [][]int64{{1, 4}, {4, 1}, {1, 3}, {3, 1}, {2, 3}}},
		{named(t, "square", 5), [][]int64{{2, 4}, {4, 2}}, [][]int64{{1, 8}, {8, 1}, {3, 3}, {1, 5}, {5, 1}, {2, 2}, {48, 48}, {1, 1}}},
		{named(t, "triangle", 5), [][]int64{{2, 3}, {3, 2}}, [][]int64{{1, 6}, {6, 1}, {1, 4}, {4, 1}, {3, 3}}},
		{named(t, "turn", 5), nil, [][]int64{{1, 1, 3}, {3, 1, 1}, {1, 1, 1}, {1, 2, 3}}},
		{named(t, "turn", 2), nil, [][]int64{{1, 1, 3}, {3, 1, 1}, {1, 1, 1}, {1, 2, 3}}},
		{named(t, "symmetric", 5), permutedDegrees(1, 2, 3), [][]int64{{1, 1, 6}, {2, 2, 2}, {1, 1, 4}, {1, 2, 2}}},
		{named(t, "cube", 5), permutedDegrees(2, 4, 6), [][]int64{{4, 4, 3}, {4, 4, 4}, {1, 1, 48}, {1, 1, 10}, {2, 3, 8}, {3, 3, 6}, {1, 6, 8}, {48, 48, 48}}},
		{signedTurns(5), nil, [][]int64{{2, 3, 4}, {1, 1, 24}, {2, 2, 2}, {1, 2, 3}, {2, 2, 6}}},
		{powersOf(13, 2), [][]int64{{12}}, [][]int64{{11}, {1}, {13}}},
		{multiplesOf(7, 2, 3), nil, [][]int64{{1, 6}, {2, 3}, {1, 1}, {6, 6}}},
		{madeOf(7, 2, cycle48), nil, [][]int64{{1, 48}, {48, 1}, {6, 8}, {1, 1}}},
		{dihedral24(), [][]int64{{2, 12}, {12, 2}}, [][]int64{{3, 8}, {4, 6}, {1, 24}, {1, 13}, {7, 7}}},
		{twoDiagonals(13, 2, 12), [][]int64{{12, 2}}, [][]int64{{3, 8}, {7, 7}}},
		{twoDiagonals(13, 2, 3), [][]int64{{12, 3}, {3, 12}}, [][]int64{{6, 6}, {4, 9}, {7, 8}}},
		{twoDiagonals(7, 3, 3), [][]int64{{6, 6}}, [][]int64{{4, 9}, {3, 12}, {5, 7}}},
	}
	for _, p := range primes {
		list = append(list,
			fitCase{named(t, "point", p), [][]int64{{1}}, [][]int64{{2}, {48}}},
			fitCase{groupWith(p, 2, unitOf(2)), [][]int64{{1, 1}}, [][]int64{{1, 2}, {48, 1}}},
			fitCase{groupWith(p, 3, unitOf(3)), [][]int64{{1, 1, 1}}, [][]int64{{1, 1, 2}, {1, 48, 1}, {2, 1, 1}}},
		)
	}
	return list
}

// permutedDegrees lists three degrees in all orders.
func permutedDegrees(a int64, b int64, c int64) [][]int64 {
	return [][]int64{{a, b, c}, {a, c, b}, {b, a, c}, {b, c, a}, {c, a, b}, {c, b, a}}
}

func TestDoDegreesFit(t *testing.T) {
	for _, c := range fitCases(t) {
		for _, degrees := range c.fit {
			yes, code := impl.DoDegreesFit(c.g, degrees)
			wantBool(t, fmt.Sprintf("DoDegreesFit(%v, %v)", c.g, degrees), yes, code, true)
		}
		for _, degrees := range c.not {
			yes, code := impl.DoDegreesFit(c.g, degrees)
			wantBool(t, fmt.Sprintf("DoDegreesFit(%v, %v)", c.g, degrees), yes, code, false)
		}
	}
}

// noDegreesFor are lists that are no degrees for a group of a size, each for one reason.
func noDegreesFor(n int64) [][]int64 {
	ones := func(count int64) []int64 { return slices.Repeat([]int64{1}, int(count)) }
	list := [][]int64{nil, {}, ones(n - 1), ones(n + 1), ones(n + 2), ones(300)}
	for i := range n {
		for _, bad := range []int64{0, -1, -2, 49, 50, 256, 257, 1 << 32, 1<<32 + 1, math.MaxInt64, math.MinInt64} {
			degrees := ones(n)
			degrees[i] = bad
			list = append(list, degrees)
		}
	}
	return list
}

// TestDoDegreesFitErrors finds lists that are in no range before modular groups.
func TestDoDegreesFitErrors(t *testing.T) {
	modular := []impl.Group{
		named(t, "swap", 2), named(t, "triangle", 2), named(t, "triangle", 3), named(t, "symmetric", 3), named(t, "turn", 3),
		named(t, "cube", 2), named(t, "cube", 3), shears(5), greatLinear(), specialLinear(), groupWith(5, 3, unipotents(5)...),
	}
	others := []impl.Group{powersOf(13, 2), named(t, "point", 2), named(t, "square", 3), named(t, "cube", 7), named(t, "turn", 2), signedTurns(5)}
	for _, g := range slices.Concat(modular, others) {
		for _, degrees := range noDegreesFor(g.Size) {
			yes, code := impl.DoDegreesFit(g, degrees)
			wantZero(t, fmt.Sprintf("DoDegreesFit(%v, %v)", g, degrees), !yes, code, impl.ErrRange)
		}
	}
	for _, g := range modular {
		for _, degrees := range [][]int64{{1, 1, 1}, {1, 2, 3}, {48, 48, 48}, {2, 4, 6}, {2, 3, 1}} {
			yes, code := impl.DoDegreesFit(g, degrees[:g.Size])
			wantZero(t, fmt.Sprintf("DoDegreesFit(%v, %v)", g, degrees[:g.Size]), !yes, code, impl.ErrState)
		}
	}
}

func TestMirrorProduct(t *testing.T) {
	good := []struct {
		g    impl.Group
		want string
	}{
		{named(t, "point", 7), "1"},
		{named(t, "sign", 5), "1x"},
		{named(t, "sign", 2), "1"},
		{named(t, "minus", 3), "1"},
		{named(t, "swap", 5), "1x+4y"},
		{named(t, "swap", 2), "1x+1y"},
		{named(t, "signs", 3), "1xy"},
		{named(t, "square", 3), "1x3y+2xy3"},
		{named(t, "square", 5), "1x3y+4xy3"},
		{named(t, "triangle", 5), "1x3+4x2y+1xy2+4y3"},
		// All elements but the unit have the same mirror here.
		{named(t, "triangle", 3), "1x5+1x4y+1x3y2+2x2y3+2xy4+2y5"},
		{named(t, "triangle", 2), "1x2y+1xy2"},
		{named(t, "turn", 7), "1"},
		{named(t, "symmetric", 7), "1x2y+6x2z+6xy2+1xz2+1y2z+6yz2"},
		{named(t, "symmetric", 2), "1x2y+1x2z+1xy2+1xz2+1y2z+1yz2"},
		{named(t, "cube", 11), "1x5y3z+10x5yz3+10x3y5z+1x3yz5+1xy5z3+10xy3z5"},
		{signedTurns(5), "1xyz"},
		{groupWith(13, 3, unitOf(3)), "1"},
		{multiplesOf(7, 2, 3), "1"},
		{madeOf(7, 2, cycle48), "1"},
		{diagonalGroup(5, 2, 4), "1x"},
		{shears(5), "1x4"},
		{overturned(shears(5)), "1y4"},
		{powersOf(13, 2), "1x11"},
		{groupWith(2, 3, unipotents(2)...), "1x3"},
		{groupWith(3, 3, unipotents(3)...), "1x8"},
		{specialLinear(), "1x6y2+1x4y4+1x2y6"},
		// Exactly MaxForms.
		{shears(13), "1x12"},
		{overturned(shears(13)), "1y12"},
		{dihedral24(), "1x12+12y12"},
		{twoDiagonals(13, 2, 12), "1x11y"},
		{twoDiagonals(13, 12, 2), "1xy11"},
	}
	for _, c := range good {
		f, code := impl.MirrorProduct(c.g)
		wantPoly(t, fmt.Sprintf("MirrorProduct(%v)", c.g), f, code, parsed(t, c.g.Prime, c.g.Size, c.want))
	}
	many := map[string]impl.Group{
		"13": twoDiagonals(13, 2, 3), "14": twoDiagonals(13, 2, 5), "20": greatLinear(), "24": groupWith(5, 3, unipotents(5)...), "25": dihedral26(),
	}
	for count, g := range many {
		f, code := impl.MirrorProduct(g)
		wantNoPoly(t, "MirrorProduct of "+count, f, code, impl.ErrLimit)
		if numbers, code := impl.ReflectionsOf(g); code != impl.ErrNone || fmt.Sprint(len(numbers)) != count {
			t.Errorf("ReflectionsOf: %d instead of %s, %d", len(numbers), count, code)
		}
	}
}

func TestDicksonInvariant(t *testing.T) {
	good := []struct {
		p, n, i int64
		want    string
	}{
		{2, 1, 0, "1x"},
		{3, 1, 0, "2x2"},
		{5, 1, 0, "4x4"},
		{7, 1, 0, "6x6"},
		{11, 1, 0, "10x10"},
		{13, 1, 0, "12x12"},
		{2, 2, 0, "1x2y+1xy2"},
		{2, 2, 1, "1x2+1xy+1y2"},
		{3, 2, 0, "1x6y2+1x4y4+1x2y6"},
		{3, 2, 1, "2x6+2x4y2+2x2y4+2y6"},
		{2, 3, 0, "1x4y2z+1x4yz2+1x2y4z+1x2yz4+1xy4z2+1xy2z4"},
		{2, 3, 1, "1x4y2+1x4yz+1x4z2+1x2y4+1x2y2z2+1x2z4+1xy4z+1xyz4+1y4z2+1y2z4"},
		{2, 3, 2, "1x4+1x2y2+1x2yz+1x2z2+1xy2z+1xyz2+1y4+1y2z2+1z4"},
	}
	for _, c := range good {
		f, code := impl.DicksonInvariant(c.p, c.n, c.i)
		wantPoly(t, fmt.Sprintf("DicksonInvariant(%d, %d, %d)", c.p, c.n, c.i), f, code, parsed(t, c.p, c.n, c.want))
	}
}

// TestDicksonInvariantsAgree multiplies out the product by hand: but for T itself only powers of T to the
// powers of p have coefficients other than 0.
func TestDicksonInvariantsAgree(t *testing.T) {
	for _, size := range dicksonSizes() {
		p, n := size[0], size[1]
		coefficients := dicksonByHand(p, n)
		power, i := 1, int64(0)
		for k, want := range coefficients {
			if k < power || i == n {
				if want.Terms != nil && k+1 < len(coefficients) {
					t.Fatalf("the coefficient of T to %d for %v is %v", k, size, want)
				}
				continue
			}
			f, code := impl.DicksonInvariant(p, n, i)
			wantPoly(t, fmt.Sprintf("DicksonInvariant(%d, %d, %d)", p, n, i), f, code, want)
			if homogeneous, _ := impl.IsHomogeneous(f); !homogeneous || topDegree(f) != int64(len(coefficients)-1-power) {
				t.Errorf("DicksonInvariant(%d, %d, %d) = %v has another degree", p, n, i, f)
			}
			power, i = power*int(p), i+1
		}
	}
}

// TestDicksonInvariantErrors finds numbers that are in no range before p^n above 13.
func TestDicksonInvariantErrors(t *testing.T) {
	outside := []int64{math.MinInt64, -256, -1, 256, 257, 1 << 32, 1<<32 + 1, math.MaxInt64}
	for _, p := range primes {
		for n := int64(1); n <= 3; n++ {
			for i := range n {
				if slices.Contains(dicksonSizes(), [2]int64{p, n}) {
					dickson(t, p, n, i)
					continue
				}
				f, code := impl.DicksonInvariant(p, n, i)
				wantNoPoly(t, fmt.Sprintf("DicksonInvariant(%d, %d, %d)", p, n, i), f, code, impl.ErrLimit)
			}
			for _, i := range append(slices.Clone(outside), n, n+1, 3, 4) {
				f, code := impl.DicksonInvariant(p, n, i)
				wantNoPoly(t, fmt.Sprintf("DicksonInvariant(%d, %d, %d)", p, n, i), f, code, impl.ErrRange)
			}
		}
		for _, n := range append(slices.Clone(outside), 0, 4, 5) {
			for _, i := range []int64{-1, 0, 1, 2, 3, math.MaxInt64} {
				f, code := impl.DicksonInvariant(p, n, i)
				wantNoPoly(t, fmt.Sprintf("DicksonInvariant(%d, %d, %d)", p, n, i), f, code, impl.ErrRange)
			}
		}
	}
	for _, p := range noPrimes {
		for n := int64(0); n <= 4; n++ {
			for i := int64(-1); i <= n; i++ {
				f, code := impl.DicksonInvariant(p, n, i)
				wantNoPoly(t, fmt.Sprintf("DicksonInvariant(%d, %d, %d)", p, n, i), f, code, impl.ErrRange)
			}
		}
	}
}

// TestJacobiansAgree develops determinants of derivatives by hand, also where there are constants and 0
// among the polynomials, and with degrees above the limit.
func TestJacobiansAgree(t *testing.T) {
	r := rand.New(rand.NewSource(43))
	found, refused := 0, 0
	for _, p := range primes {
		for d := int64(1); d <= 3; d++ {
			for range 60 {
				var list []impl.Poly
				bound := -d
				for range d {
					f := randomPoly(r, p, d, r.Int63n(min(impl.MaxDegree+1, 24/d)))
					bound += max(topDegree(f), 0)
					list = append(list, f)
				}
				f, code := impl.JacobianOf(list)
				if bound > impl.MaxDegree {
					refused++
					wantNoPoly(t, fmt.Sprintf("JacobianOf(%v)", list), f, code, impl.ErrLimit)
					continue
				}
				found++
				wantPoly(t, fmt.Sprintf("JacobianOf(%v)", list), f, code, jacobianByHand(list))
			}
		}
	}
	if found < 500 || refused < 20 {
		t.Errorf("%d Jacobians are found, and %d refused", found, refused)
	}
}
