package tests

import (
	"fmt"
	"math/rand"
	"slices"
	"testing"

	"loop.example/g01285/impl"
)

// degreesSeries returns the series of degrees.
func degreesSeries(t *testing.T, degrees []int64, k int64) []int64 {
	t.Helper()
	series, code := impl.SeriesOfDegrees(degrees, k)
	if code != impl.ErrNone || int64(len(series)) != k+1 {
		t.Fatalf("SeriesOfDegrees(%v, %d) = %v, %d", degrees, k, series, code)
	}
	return series
}

// seriesProduct returns the product of two series.
func seriesProduct(t *testing.T, a []int64, b []int64) []int64 {
	t.Helper()
	series, code := impl.MultiplySeries(a, b)
	if code != impl.ErrNone || len(series) != min(len(a), len(b)) {
		t.Fatalf("MultiplySeries(%v, %v) = %v, %d", a, b, series, code)
	}
	return series
}

// hilbert returns the Hilbert series up to k.
func hilbert(t *testing.T, g impl.Group, k int64) []int64 {
	t.Helper()
	series, code := impl.HilbertSeries(g, k)
	if code != impl.ErrNone || int64(len(series)) != k+1 {
		t.Fatalf("HilbertSeries(%v, %d) = %v, %d", g, k, series, code)
	}
	return series
}

// TestPromise4Numerators finds the numerators of series of degrees to be 1, for all lengths of series
// and numbers of degrees, and for the degrees in another order.
func TestPromise4Numerators(t *testing.T) {
	r := rand.New(rand.NewSource(26))
	for count := range 7 {
		for k := range int64(impl.MaxSeries + 1) {
			for _, greatest := range []int64{1, 6, impl.MaxSeries} {
				degrees := randomDegrees(r, count, greatest)
				series := degreesSeries(t, degrees, k)
				r.Shuffle(count, func(i, j int) { degrees[i], degrees[j] = degrees[j], degrees[i] })
				numerator, code := impl.NumeratorOf(series, degrees)
				wantNumbers(t, fmt.Sprintf("NumeratorOf(%v, %v)", series, degrees), numerator, code, begun(int(k)+1, 1), impl.ErrNone)
				same, code := impl.IsFromBehind(numerator)
				if !same || code != impl.ErrNone {
					t.Errorf("IsFromBehind(%v) = %v, %d", numerator, same, code)
				}
			}
		}
	}
}

// TestPromise4Products multiplies two and three series in all orders.
func TestPromise4Products(t *testing.T) {
	r := rand.New(rand.NewSource(27))
	for range 3000 {
		a, b, c := randomSeries(r, 1+r.Intn(41), 500), randomSeries(r, 1+r.Intn(41), 100), randomSeries(r, 1+r.Intn(41), 10)
		ab := seriesProduct(t, a, b)
		for _, other := range [][]int64{seriesProduct(t, b, a), seriesProduct(t, ab, begun(41, 1)), seriesProduct(t, begun(41, 1), ab)} {
			if !slices.Equal(ab, other) {
				t.Fatalf("the products of %v and %v are %v and %v", a, b, ab, other)
			}
		}
		abc := seriesProduct(t, ab, c)
		for _, other := range [][]int64{seriesProduct(t, a, seriesProduct(t, b, c)), seriesProduct(t, c, ab), seriesProduct(t, seriesProduct(t, c, a), b)} {
			if !slices.Equal(abc, other) {
				t.Fatalf("the products of %v, %v and %v are %v and %v", a, b, c, abc, other)
			}
		}
	}
}

// TestPromise4ProductsAtTheLimit multiplies series with great numbers: where neither order is refused
// the products are the same.
func TestPromise4ProductsAtTheLimit(t *testing.T) {
	r := rand.New(rand.NewSource(28))
	both, one := 0, 0
	for range 20000 {
		a, b := randomSeries(r, 1+r.Intn(4), 60000), randomSeries(r, 1+r.Intn(4), 30000)
		ab, code := impl.MultiplySeries(a, b)
		ba, other := impl.MultiplySeries(b, a)
		if code == impl.ErrNone && other == impl.ErrNone {
			both++
			if !slices.Equal(ab, ba) {
				t.Fatalf("the products of %v and %v are %v and %v", a, b, ab, ba)
			}
		}
		if code != other {
			one++
		}
	}
	if both < 1000 || one < 50 {
		t.Errorf("%d products in both orders, %d in one of them", both, one)
	}
}

// TestSeriesOfDegreesMultiply holds series of more degrees against products of those of less.
func TestSeriesOfDegreesMultiply(t *testing.T) {
	r := rand.New(rand.NewSource(29))
	for range 1000 {
		left, right := randomDegrees(r, r.Intn(4), 12), randomDegrees(r, r.Intn(4), 12)
		k, l := r.Int63n(41), r.Int63n(41)
		all := degreesSeries(t, slices.Concat(left, right), min(k, l))
		if parts := seriesProduct(t, degreesSeries(t, left, k), degreesSeries(t, right, l)); !slices.Equal(all, parts) {
			t.Fatalf("the degrees %v and %v: %v, and %v together", left, right, parts, all)
		}
	}
}

// TestNumeratorsAreProducts multiplies a series with 1 - t^d for all degrees d, and gets it back from
// the numerator and the series of the degrees.
func TestNumeratorsAreProducts(t *testing.T) {
	r := rand.New(rand.NewSource(30))
	for range 1000 {
		a, degrees := randomSeries(r, 1+r.Intn(41), 100), randomDegrees(r, r.Intn(4), 12)
		if r.Intn(3) == 0 {
			degrees = randomDegrees(r, r.Intn(7), 40)
		}
		want := a
		for _, d := range degrees {
			factor := append(zeros(int(d)), -1)
			factor[0]++
			want = seriesProduct(t, append(factor, zeros(40-int(d))...), want)
		}
		numerator, code := impl.NumeratorOf(a, degrees)
		wantNumbers(t, fmt.Sprintf("NumeratorOf(%v, %v)", a, degrees), numerator, code, want, impl.ErrNone)
		if len(degrees) > 3 {
			// With so many degrees numbers can become too great.
			continue
		}
		if back := seriesProduct(t, numerator, degreesSeries(t, degrees, 40)); !slices.Equal(back, a) {
			t.Fatalf("the numerator of %v for %v leads back to %v", a, degrees, back)
		}
	}
}

// TestShiftsAreProducts multiplies series with powers of t.
func TestShiftsAreProducts(t *testing.T) {
	r := rand.New(rand.NewSource(31))
	for k := range int64(impl.MaxSeries + 1) {
		for range 20 {
			a := randomSeries(r, 1+r.Intn(41), impl.MaxCount)
			power := append(append(zeros(int(k)), 1), zeros(40-int(k))...)
			shifted, code := impl.ShiftSeries(a, k)
			wantNumbers(t, fmt.Sprintf("ShiftSeries(%v, %d)", a, k), shifted, code, seriesProduct(t, a, power), impl.ErrNone)
		}
	}
}

// TestPromise12 holds Molien series, up to the greatest degree of Hilbert series, against these modulo p.
func TestPromise12(t *testing.T) {
	found := 0
	manyGroups(t, func(g impl.Group) {
		series := hilbert(t, g, impl.MaxInvariant)
		molien, code := impl.MolienSeries(g, impl.MaxInvariant)
		if int64(len(g.Elements))%g.Prime == 0 {
			wantNumbers(t, "MolienSeries", molien, code, nil, impl.ErrState)
			return
		}
		found++
		wantNumbers(t, fmt.Sprintf("MolienSeries(%v)", g), molien, code, modulo(g.Prime, series), impl.ErrNone)
	})
	if found < 200 {
		t.Errorf("%d groups that are not modular", found)
	}
}

// TestDimensionsByHand finds the dimensions of groups of all kinds from the conditions that all their
// Elements make, and the numbers of the Hilbert series to be dimensions.
func TestDimensionsByHand(t *testing.T) {
	count := 0
	manyGroups(t, func(g impl.Group) {
		greatest := int64(3)
		if g.Size < 3 {
			greatest = 5
		}
		// For the greatest degrees some groups are enough.
		if count++; count%10 == 0 {
			greatest += 3
		}
		series := hilbert(t, g, impl.MaxInvariant)
		for k := int64(0); k <= impl.MaxInvariant; k++ {
			dimension, code := impl.InvariantDimension(g, k)
			wantNumber(t, fmt.Sprintf("InvariantDimension(%v, %d)", g, k), dimension, code, series[k], impl.ErrNone)
			if k <= greatest {
				wantNumber(t, fmt.Sprintf("dimension of %v, %d by hand", g, k), dimension, code, dimensionByHand(g, k), impl.ErrNone)
			}
		}
	})
}

// TestDimensionsAreCounted tries all polynomials, where there are few, and leads them by all Elements.
func TestDimensionsAreCounted(t *testing.T) {
	modular := 0
	check := func(g impl.Group) {
		for k := range int64(impl.MaxInvariant + 1) {
			want, few := countedDimension(g, k)
			if !few {
				return
			}
			dimension, code := impl.InvariantDimension(g, k)
			wantNumber(t, fmt.Sprintf("InvariantDimension(%v, %d)", g, k), dimension, code, want, impl.ErrNone)
			if k > 0 && len(g.Elements)%int(g.Prime) == 0 {
				modular++
			}
		}
	}
	manyGroups(t, func(g impl.Group) {
		// Groups with more Elements take long.
		if len(g.Elements) <= 12 {
			check(g)
		}
	})
	for _, p := range []int64{2, 3, 5} {
		check(shears(p))
		check(overturned(shears(p)))
		check(overturned(named(t, "triangle", p)))
		check(groupWith(p, 3, unipotents(p)...))
		check(overturned(groupWith(p, 3, unipotents(p)...)))
	}
	if modular < 100 {
		t.Errorf("%d dimensions of modular groups", modular)
	}
}

// TestHilbertSeriesOfConjugates finds those of conjugate groups to be the same, and those of subgroups
// to be at least as great.
func TestHilbertSeriesOfConjugates(t *testing.T) {
	r := rand.New(rand.NewSource(32))
	manyGroups(t, func(g impl.Group) {
		series := hilbert(t, g, 6)
		other, code := impl.ConjugateGroup(g, randomMatrix(r, g.Prime, g.Size))
		if code != impl.ErrNone || !slices.Equal(hilbert(t, other, 6), series) {
			t.Fatalf("ConjugateGroup(%v) = %v, %d: another Hilbert series than %v", g, other, code, series)
		}
		part, code := impl.SubgroupOf(g, []int64{r.Int63n(int64(len(g.Elements)))})
		if code != impl.ErrNone {
			t.Fatalf("SubgroupOf: code %d", code)
		}
		for k, dimension := range hilbert(t, part, 6) {
			if dimension < series[k] || dimension > int64(len(monomials(g.Size, int64(k)))) {
				t.Fatalf("%v has the dimension %d for %d, and a group around it %d", part, dimension, k, series[k])
			}
		}
	})
}

// TestNumeratorsOfGroups divides the Hilbert series of groups with names by degrees of invariants.
func TestNumeratorsOfGroups(t *testing.T) {
	cases := []struct {
		name          string
		degrees, want []int64
	}{
		{"swap", []int64{1, 2}, begun(9, 1)},
		{"square", []int64{2, 4}, begun(9, 1)},
		{"triangle", []int64{2, 3}, begun(9, 1)},
		{"symmetric", []int64{1, 2, 3}, begun(9, 1)},
		{"cube", []int64{2, 4, 6}, begun(9, 1)},
		{"minus", []int64{2, 2}, begun(9, 1, 0, 1)},
		{"turn", []int64{1, 2, 3}, begun(9, 1, 0, 0, 1)},
	}
	for _, c := range cases {
		for _, p := range []int64{5, 7, 11, 13} {
			numerator, code := impl.NumeratorOf(hilbert(t, named(t, c.name, p), 8), c.degrees)
			wantNumbers(t, fmt.Sprintf("NumeratorOf %s for %d", c.name, p), numerator, code, c.want, impl.ErrNone)
			if yes, code := impl.IsFromBehind(numerator); !yes || code != impl.ErrNone {
				t.Errorf("IsFromBehind(%v) = %v, %d", numerator, yes, code)
			}
		}
	}
}

// TestCharacteristicOfConjugates finds the characteristic polynomials of conjugate matrices, and of
// classes, to be the same, and determinants as their last numbers.
func TestCharacteristicOfConjugates(t *testing.T) {
	manyGroups(t, func(g impl.Group) {
		p, n := g.Prime, g.Size
		classes, code := impl.ClassesOf(g)
		if code != impl.ErrNone {
			t.Fatalf("ClassesOf(%v): code %d", g, code)
		}
		for _, class := range classes {
			want := characteristicByHand(p, n, g.Elements[class[0]])
			for _, number := range class {
				x := g.Elements[number]
				numbers, code := impl.CharacteristicOf(p, n, x)
				wantNumbers(t, fmt.Sprintf("CharacteristicOf(%d, %d, %v)", p, n, x), numbers, code, want, impl.ErrNone)
			}
			sign := int64(1)
			if n%2 == 1 {
				sign = p - 1
			}
			determinant, code := impl.DeterminantOf(p, n, g.Elements[class[0]])
			wantNumber(t, "the last number", want[n], code, sign*determinant%p, impl.ErrNone)
		}
	})
}

// TestCountingSeriesAreHilbertSeries turns permutations into matrices: the monomials of a degree that
// these exchange with each other make one invariant, whatever the prime.
func TestCountingSeriesAreHilbertSeries(t *testing.T) {
	groups := map[string][][]int64{
		"swap":      permutations(2),
		"turn":      {{0, 1, 2}, {1, 2, 0}, {2, 0, 1}},
		"symmetric": permutations(3),
	}
	for name, lists := range groups {
		series, code := impl.CountingSeries(lists, impl.MaxInvariant)
		for _, p := range primes {
			wantNumbers(t, "CountingSeries of "+name, series, code, hilbert(t, named(t, name, p), impl.MaxInvariant), impl.ErrNone)
		}
	}
}
