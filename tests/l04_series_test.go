package tests

import (
	"fmt"
	"math"
	"math/rand"
	"slices"
	"testing"

	"loop.example/g01285/impl"
)

// mostCount is the greatest number of a series.
const mostCount = impl.MaxCount

func TestSeriesLimits(t *testing.T) {
	if impl.MaxInvariant != 8 || impl.MaxSeries != 40 || impl.MaxCount != 1000000000 {
		t.Errorf("limits %d, %d, %d", impl.MaxInvariant, impl.MaxSeries, impl.MaxCount)
	}
}

// hilbertCase is a group with its Hilbert series up to MaxInvariant.
type hilbertCase struct {
	what string
	g    impl.Group
	want []int64
}

// hilbertCases are groups of all kinds, modular and others, with series that are known.
func hilbertCases(t *testing.T) []hilbertCase {
	list := []hilbertCase{
		{"swap for 2", named(t, "swap", 2), []int64{1, 1, 2, 2, 3, 3, 4, 4, 5}},
		{"swap for 5", named(t, "swap", 5), []int64{1, 1, 2, 2, 3, 3, 4, 4, 5}},
		{"sign for 3", named(t, "sign", 3), []int64{1, 0, 1, 0, 1, 0, 1, 0, 1}},
		{"sign for 2", named(t, "sign", 2), []int64{1, 1, 1, 1, 1, 1, 1, 1, 1}},
		{"minus for 7", named(t, "minus", 7), []int64{1, 0, 3, 0, 5, 0, 7, 0, 9}},
		{"turn for 3", named(t, "turn", 3), []int64{1, 1, 2, 4, 5, 7, 10, 12, 15}},
		{"symmetric for 2", named(t, "symmetric", 2), []int64{1, 1, 2, 3, 4, 5, 7, 8, 10}},
		{"cube for 3", named(t, "cube", 3), []int64{1, 0, 1, 0, 2, 0, 3, 0, 4}},
		{"cube for 13", named(t, "cube", 13), []int64{1, 0, 1, 0, 2, 0, 3, 0, 4}},
		{"the unit of the size 1", groupWith(13, 1, unitOf(1)), []int64{1, 1, 1, 1, 1, 1, 1, 1, 1}},
		{"the unit of the size 2", groupWith(2, 2, unitOf(2)), []int64{1, 2, 3, 4, 5, 6, 7, 8, 9}},
		{"the unit of the size 3", groupWith(7, 3, unitOf(3)), []int64{1, 3, 6, 10, 15, 21, 28, 36, 45}},
		{"multiples of the order 3", multiplesOf(7, 3, 2), []int64{1, 0, 0, 10, 0, 0, 28, 0, 0}},
		{"multiples of the order 4", multiplesOf(5, 3, 2), []int64{1, 0, 0, 0, 15, 0, 0, 0, 45}},
		{"multiples of the order 12", multiplesOf(13, 3, 2), []int64{1, 0, 0, 0, 0, 0, 0, 0, 0}},
		{"powers of the order 4", powersOf(13, 5), []int64{1, 0, 0, 0, 1, 0, 0, 0, 1}},
		{"powers of the order 12", powersOf(13, 2), []int64{1, 0, 0, 0, 0, 0, 0, 0, 0}},
		{"powers of the order 48", groupWith(7, 2, closedList(7, 2, []impl.Matrix{cycle48}, impl.MaxOrder)...), begun(9, 1)},
		{"all matrices modulo 2", named(t, "triangle", 2), []int64{1, 0, 1, 1, 1, 1, 2, 1, 2}},
		{"all matrices modulo 3", greatLinear(), []int64{1, 0, 0, 0, 0, 0, 1, 0, 1}},
		{"unipotents", groupWith(5, 3, unipotents(5)...), seriesByHand([]int64{1, 5, 5}, impl.MaxInvariant)},
		{"unipotents modulo 2", groupWith(2, 3, unipotents(2)...), seriesByHand([]int64{1, 2, 2}, impl.MaxInvariant)},
		// The letter x has 25 images: their product is the third invariant.
		{"unipotents overturned", overturned(groupWith(5, 3, unipotents(5)...)), seriesByHand([]int64{1, 1}, impl.MaxInvariant)},
		{"unipotents modulo 2 overturned", overturned(groupWith(2, 3, unipotents(2)...)), seriesByHand([]int64{1, 1, 4}, impl.MaxInvariant)},
		{"triangle for 3", named(t, "triangle", 3), []int64{1, 0, 1, 1, 1, 1, 2, 1, 2}},
		{"triangle for 3 overturned", overturned(named(t, "triangle", 3)), seriesByHand([]int64{1, 6}, impl.MaxInvariant)},
	}
	for _, p := range primes {
		list = append(list, hilbertCase{fmt.Sprint("shears for ", p), shears(p), seriesByHand([]int64{1, p}, impl.MaxInvariant)})
		for _, name := range groupNames {
			known := knownSeries(t, name, p, impl.MaxInvariant)
			list = append(list, hilbertCase{fmt.Sprintf("%s for %d", name, p), named(t, name, p), known})
		}
	}
	return list
}

func TestHilbertSeries(t *testing.T) {
	for _, c := range hilbertCases(t) {
		for k := range int64(impl.MaxInvariant + 1) {
			series, code := impl.HilbertSeries(c.g, k)
			wantNumbers(t, fmt.Sprintf("HilbertSeries of %s up to %d", c.what, k), series, code, c.want[:k+1], impl.ErrNone)
		}
	}
}

func TestInvariantDimension(t *testing.T) {
	for _, c := range hilbertCases(t) {
		for k, want := range c.want {
			dimension, code := impl.InvariantDimension(c.g, int64(k))
			wantNumber(t, fmt.Sprintf("InvariantDimension of %s and %d", c.what, k), dimension, code, want, impl.ErrNone)
		}
	}
}

// TestSeriesOfGroupsErrors gives what is no group, and numbers at and outside of the ends of the
// range, to all functions of groups: what is no group is found first, then numbers, then modular groups.
func TestSeriesOfGroupsErrors(t *testing.T) {
	numbers := func(list []int64, code int64) (bool, int64) { return len(list) == 0, code }
	calls := []struct {
		name      string
		call      func(g impl.Group, k int64) (bool, int64)
		most      int64
		isModular int64
	}{
		{"InvariantDimension", func(g impl.Group, k int64) (bool, int64) {
			dimension, code := impl.InvariantDimension(g, k)
			return dimension == 0, code
		}, impl.MaxInvariant, impl.ErrNone},
		{"HilbertSeries", func(g impl.Group, k int64) (bool, int64) { return numbers(impl.HilbertSeries(g, k)) }, impl.MaxInvariant, impl.ErrNone},
		{"MolienSeries", func(g impl.Group, k int64) (bool, int64) { return numbers(impl.MolienSeries(g, k)) }, impl.MaxSeries, impl.ErrState},
	}
	for _, c := range calls {
		for k, inside := range askedDegrees(c.most) {
			what := fmt.Sprintf("%s and %d of ", c.name, k)
			for why, g := range noGroups() {
				zero, code := c.call(g, k)
				wantZero(t, what+why, zero, code, impl.ErrInvalid)
			}
			for _, g := range []impl.Group{named(t, "swap", 5), groupWith(2, 3, unitOf(3)), named(t, "cube", 11)} {
				zero, code := c.call(g, k)
				if inside && code != impl.ErrNone {
					t.Errorf("%sa group of %d: code %d", what, len(g.Elements), code)
				}
				if !inside {
					wantZero(t, what+"a group", zero, code, impl.ErrRange)
				}
			}
			for _, g := range []impl.Group{named(t, "swap", 2), shears(13), named(t, "cube", 3)} {
				zero, code := c.call(g, k)
				switch {
				case !inside:
					wantZero(t, what+"a modular group", zero, code, impl.ErrRange)
				case c.isModular != impl.ErrNone:
					wantZero(t, what+"a modular group", zero, code, c.isModular)
				case code != impl.ErrNone:
					t.Errorf("%sa modular group: code %d", what, code)
				}
			}
		}
	}
}

func TestMultiplySeries(t *testing.T) {
	good := []struct{ a, b, want []int64 }{
		{[]int64{1, 1, 1}, []int64{1, -1, 0}, []int64{1, 0, 0}},
		{[]int64{1, 2, 3}, []int64{4, 5, 6}, []int64{4, 13, 28}},
		{[]int64{3}, []int64{-7}, []int64{-21}},
		{[]int64{3}, []int64{-7, 100, mostCount}, []int64{-21}},
		{[]int64{-7, 100, -mostCount}, []int64{3}, []int64{-21}},
		{[]int64{1, 2, 3, 4}, []int64{5, 6}, []int64{5, 16}},
		{[]int64{0, 0, 1}, []int64{0, 0, 1}, []int64{0, 0, 0}},
		{[]int64{0, 1, 0, 0}, []int64{2, 3, 4, 5}, []int64{0, 2, 3, 4}},
		{[]int64{0}, []int64{mostCount}, []int64{0}},
		{[]int64{1}, []int64{mostCount}, []int64{mostCount}},
		{[]int64{-1}, []int64{mostCount}, []int64{-mostCount}},
		{[]int64{-mostCount}, []int64{-1}, []int64{mostCount}},
		{[]int64{mostCount / 2}, []int64{2}, []int64{mostCount}},
		{[]int64{31622}, []int64{31622}, []int64{999950884}},
		{[]int64{1, 1}, []int64{1, mostCount - 1}, []int64{1, mostCount}},
		{[]int64{1, -1}, []int64{1, -mostCount + 1}, []int64{1, -mostCount}},
		// A sum on the way reaches the limit, and no more.
		{[]int64{1, -1}, []int64{1, mostCount}, []int64{1, mostCount - 1}},
		{[]int64{1, 0, -1}, []int64{1, 1, mostCount}, []int64{1, 1, mostCount - 1}},
		// A product is greater, but no sum on the way is.
		{[]int64{100000000, 600000000}, []int64{2, -4}, []int64{200000000, 800000000}},
		{[]int64{0, mostCount}, []int64{0, mostCount}, []int64{0, 0}},
		{begun(41, 1), begun(41, 1, 2, 3), begun(41, 1, 2, 3)},
		{slices.Repeat([]int64{1}, 41), begun(41, 1, -1), begun(41, 1)},
		{slices.Repeat([]int64{1}, 41), slices.Repeat([]int64{1}, 41), seriesByHand([]int64{1, 1}, 40)},
		{slices.Repeat([]int64{1}, 41), slices.Repeat([]int64{1}, 17), seriesByHand([]int64{1, 1}, 16)},
		{zeros(41), slices.Repeat([]int64{-mostCount}, 41), zeros(41)},
	}
	for _, c := range good {
		product, code := impl.MultiplySeries(c.a, c.b)
		wantNumbers(t, fmt.Sprintf("MultiplySeries(%v, %v)", c.a, c.b), product, code, c.want, impl.ErrNone)
	}
}

func TestMultiplySeriesErrors(t *testing.T) {
	tooGreat := []struct{ a, b []int64 }{
		{[]int64{mostCount}, []int64{2}},
		{[]int64{-mostCount}, []int64{2}},
		{[]int64{mostCount}, []int64{mostCount}},
		{[]int64{-mostCount}, []int64{-mostCount}},
		{[]int64{31623}, []int64{31623}},
		{[]int64{500000001}, []int64{2}},
		{[]int64{-500000001}, []int64{2}},
		{[]int64{mostCount, 1}, []int64{1, 1}},
		{[]int64{1, 1}, []int64{1, mostCount}},
		{[]int64{1, -1}, []int64{1, -mostCount}},
		// The result is small, but a sum on the way is not: at 2, MaxCount + 1 - 1.
		{[]int64{1, 1, -1}, []int64{1, 1, mostCount}},
		{[]int64{1, -1, 1}, []int64{1, 1, -mostCount}},
		// At 1, 1200000000 - 400000000; the other way round it is no error.
		{[]int64{2, -4}, []int64{100000000, 600000000}},
		// Only the last number is too great.
		{slices.Repeat([]int64{1}, 41), append(begun(40, 1), mostCount)},
		{append(begun(40, 1), mostCount), slices.Repeat([]int64{1}, 41)},
		// The least whole numbers of 64 bits are far behind what is added up here.
		{slices.Repeat([]int64{mostCount}, 41), slices.Repeat([]int64{mostCount}, 41)},
		{append(begun(40), mostCount), append([]int64{4, 4}, zeros(39)...)},
	}
	for _, c := range tooGreat {
		product, code := impl.MultiplySeries(c.a, c.b)
		wantNumbers(t, fmt.Sprintf("MultiplySeries(%v, %v)", c.a, c.b), product, code, nil, impl.ErrLimit)
	}
	for why, bad := range noSeries() {
		for _, other := range [][]int64{{1}, {0, 1}, {mostCount}, zeros(41), slices.Repeat([]int64{-mostCount}, 41), bad} {
			product, code := impl.MultiplySeries(bad, other)
			wantNumbers(t, "MultiplySeries of "+why, product, code, nil, impl.ErrRange)
			product, code = impl.MultiplySeries(other, bad)
			wantNumbers(t, "MultiplySeries with "+why, product, code, nil, impl.ErrRange)
		}
	}
	// What is no series is found before what is too great.
	product, code := impl.MultiplySeries([]int64{mostCount, 1}, []int64{mostCount, mostCount + 1})
	wantNumbers(t, "MultiplySeries", product, code, nil, impl.ErrRange)
}

// TestMultiplySeriesAgrees makes products apart from the program, and finds those that are refused.
func TestMultiplySeriesAgrees(t *testing.T) {
	r := rand.New(rand.NewSource(20))
	refused := 0
	for range 4000 {
		a := randomSeries(r, 1+r.Intn(41), 1+r.Int63n(50000))
		b := randomSeries(r, 1+r.Intn(41), 1+r.Int63n(50000))
		want, wantCode := zeros(min(len(a), len(b))), int64(impl.ErrNone)
		for k := range want {
			for i := 0; i <= k; i++ {
				want[k] += a[i] * b[k-i]
				if want[k] > mostCount || want[k] < -mostCount {
					wantCode = impl.ErrLimit
				}
			}
		}
		if wantCode != impl.ErrNone {
			want = nil
			refused++
		}
		product, code := impl.MultiplySeries(a, b)
		wantNumbers(t, fmt.Sprintf("MultiplySeries(%v, %v)", a, b), product, code, want, wantCode)
	}
	if refused < 500 || refused > 3500 {
		t.Errorf("%d of 4000 products are refused", refused)
	}
}

func TestShiftSeries(t *testing.T) {
	long := randomSeries(rand.New(rand.NewSource(21)), 41, mostCount)
	good := []struct {
		a    []int64
		k    int64
		want []int64
	}{
		{[]int64{1, 2, 3}, 0, []int64{1, 2, 3}},
		{[]int64{1, 2, 3}, 1, []int64{0, 1, 2}},
		{[]int64{1, 2, 3}, 2, []int64{0, 0, 1}},
		{[]int64{1, 2, 3}, 3, []int64{0, 0, 0}},
		{[]int64{1, 2, 3}, 4, []int64{0, 0, 0}},
		{[]int64{1, 2, 3}, 39, []int64{0, 0, 0}},
		{[]int64{1, 2, 3}, 40, []int64{0, 0, 0}},
		{[]int64{7}, 0, []int64{7}},
		{[]int64{7}, 1, []int64{0}},
		{[]int64{7}, 40, []int64{0}},
		{[]int64{mostCount, -mostCount, 0}, 1, []int64{0, mostCount, -mostCount}},
		{[]int64{0, 0, 5}, 1, []int64{0, 0, 0}},
		{long, 0, long},
		{long, 1, append([]int64{0}, long[:40]...)},
		{long, 39, append(zeros(39), long[:2]...)},
		{long, 40, append(zeros(40), long[0])},
	}
	for _, c := range good {
		shifted, code := impl.ShiftSeries(c.a, c.k)
		wantNumbers(t, fmt.Sprintf("ShiftSeries(%v, %d)", c.a, c.k), shifted, code, c.want, impl.ErrNone)
	}
	for k, inside := range askedDegrees(impl.MaxSeries) {
		for _, a := range [][]int64{{1}, {mostCount, 1}, long} {
			shifted, code := impl.ShiftSeries(a, k)
			if inside && (code != impl.ErrNone || len(shifted) != len(a)) {
				t.Errorf("ShiftSeries(%v, %d) = %v, %d", a, k, shifted, code)
			}
			if !inside {
				wantNumbers(t, fmt.Sprintf("ShiftSeries(%v, %d)", a, k), shifted, code, nil, impl.ErrRange)
			}
		}
		for why, bad := range noSeries() {
			shifted, code := impl.ShiftSeries(bad, k)
			wantNumbers(t, "ShiftSeries of "+why, shifted, code, nil, impl.ErrRange)
		}
	}
}

func TestSeriesOfDegrees(t *testing.T) {
	good := []struct {
		degrees []int64
		k       int64
		want    []int64
	}{
		{[]int64{1, 2}, 4, []int64{1, 1, 2, 2, 3}},
		{nil, 0, []int64{1}},
		{nil, 5, []int64{1, 0, 0, 0, 0, 0}},
		{[]int64{}, 40, begun(41, 1)},
		{[]int64{1}, 3, []int64{1, 1, 1, 1}},
		{[]int64{1, 1}, 3, []int64{1, 2, 3, 4}},
		{[]int64{2, 2}, 4, []int64{1, 0, 2, 0, 3}},
		{[]int64{3}, 2, []int64{1, 0, 0}},
		{[]int64{3}, 3, []int64{1, 0, 0, 1}},
		{[]int64{3, 5}, 8, []int64{1, 0, 0, 1, 0, 1, 1, 0, 1}},
		{[]int64{40}, 0, []int64{1}},
		{[]int64{40}, 39, begun(40, 1)},
		{[]int64{40}, 40, append(begun(40, 1), 1)},
		{[]int64{40, 40}, 40, append(begun(40, 1), 2)},
		{[]int64{40, 40, 40, 40, 40, 40}, 40, append(begun(40, 1), 6)},
		{[]int64{1, 1, 1, 1, 1, 1}, 4, []int64{1, 6, 21, 56, 126}},
		{[]int64{1, 2, 3, 4, 5, 6}, 10, []int64{1, 1, 2, 3, 5, 7, 11, 14, 20, 26, 35}},
		{[]int64{6, 5, 4, 3, 2, 1}, 10, []int64{1, 1, 2, 3, 5, 7, 11, 14, 20, 26, 35}},
	}
	for _, c := range good {
		series, code := impl.SeriesOfDegrees(c.degrees, c.k)
		wantNumbers(t, fmt.Sprintf("SeriesOfDegrees(%v, %d)", c.degrees, c.k), series, code, c.want, impl.ErrNone)
	}
	series, code := impl.SeriesOfDegrees([]int64{1, 1, 1, 1, 1, 1}, 40)
	if code != impl.ErrNone || len(series) != 41 || series[40] != 1221759 {
		t.Errorf("SeriesOfDegrees with the greatest numbers = %v, %d", series, code)
	}
}

// TestSeriesOfDegreesAgrees counts the ways by hand, for lists of up to six degrees.
func TestSeriesOfDegreesAgrees(t *testing.T) {
	r := rand.New(rand.NewSource(22))
	for count := range 7 {
		for _, greatest := range []int64{3, 8, 40} {
			for range 10 {
				degrees, k := randomDegrees(r, count, greatest), r.Int63n(41)
				series, code := impl.SeriesOfDegrees(degrees, k)
				wantNumbers(t, fmt.Sprintf("SeriesOfDegrees(%v, %d)", degrees, k), series, code, seriesByHand(degrees, k), impl.ErrNone)
			}
		}
	}
}

func TestSeriesOfDegreesErrors(t *testing.T) {
	for k, inside := range askedDegrees(impl.MaxSeries) {
		for _, degrees := range [][]int64{nil, {1}, {40}, {1, 1, 1, 1, 1, 1}} {
			series, code := impl.SeriesOfDegrees(degrees, k)
			if inside && (code != impl.ErrNone || int64(len(series)) != k+1) {
				t.Errorf("SeriesOfDegrees(%v, %d) = %v, %d", degrees, k, series, code)
			}
			if !inside {
				wantNumbers(t, fmt.Sprintf("SeriesOfDegrees(%v, %d)", degrees, k), series, code, nil, impl.ErrRange)
			}
		}
		for why, bad := range noDegrees() {
			series, code := impl.SeriesOfDegrees(bad, k)
			wantNumbers(t, "SeriesOfDegrees of "+why, series, code, nil, impl.ErrRange)
		}
	}
}

func TestNumeratorOf(t *testing.T) {
	good := []struct{ a, degrees, want []int64 }{
		{[]int64{1, 1, 2, 2, 3}, []int64{1, 2}, []int64{1, 0, 0, 0, 0}},
		{[]int64{1, 1, 2, 2, 3}, nil, []int64{1, 1, 2, 2, 3}},
		{[]int64{1, 1, 2, 2, 3}, []int64{1}, []int64{1, 0, 1, 0, 1}},
		{[]int64{1, 1, 2, 2, 3}, []int64{2}, []int64{1, 1, 1, 1, 1}},
		{[]int64{1, 0, 3, 0, 5, 0, 7}, []int64{2, 2}, []int64{1, 0, 1, 0, 0, 0, 0}},
		{[]int64{1, 1, 2, 4, 5, 7, 10}, []int64{1, 2, 3}, []int64{1, 0, 0, 1, 0, 0, 0}},
		{[]int64{1, 1, 2, 4, 5, 7, 10}, []int64{3, 2, 1}, []int64{1, 0, 0, 1, 0, 0, 0}},
		{[]int64{5}, []int64{1, 1, 40}, []int64{5}},
		{[]int64{5, 6}, []int64{2, 3, 40}, []int64{5, 6}},
		{[]int64{5, 6}, []int64{1}, []int64{5, 1}},
		{[]int64{1, 0, 0, 0, 0, 0, 0}, []int64{1, 1, 1, 1, 1, 1}, []int64{1, -6, 15, -20, 15, -6, 1}},
		{[]int64{0, 0}, []int64{1}, []int64{0, 0}},
		{begun(41, 7), []int64{40}, append(begun(40, 7), -7)},
		{begun(41, 7), []int64{39}, append(begun(39, 7), -7, 0)},
		{begun(41, 1), []int64{40, 40, 40, 40, 40, 40}, append(begun(40, 1), -6)},
		// Numbers of the result at the limit.
		{[]int64{mostCount, mostCount}, []int64{1}, []int64{mostCount, 0}},
		{[]int64{1, 1 - mostCount}, []int64{1}, []int64{1, -mostCount}},
		{[]int64{-1, mostCount - 1}, []int64{1}, []int64{-1, mostCount}},
		{[]int64{mostCount, -mostCount}, []int64{2}, []int64{mostCount, -mostCount}},
	}
	for _, c := range good {
		numerator, code := impl.NumeratorOf(c.a, c.degrees)
		wantNumbers(t, fmt.Sprintf("NumeratorOf(%v, %v)", c.a, c.degrees), numerator, code, c.want, impl.ErrNone)
	}
}

func TestNumeratorOfErrors(t *testing.T) {
	tooGreat := []struct{ a, degrees []int64 }{
		{[]int64{1, -mostCount}, []int64{1}},
		{[]int64{-1, mostCount}, []int64{1}},
		{[]int64{mostCount, -mostCount}, []int64{1}},
		{[]int64{0, 0, 1, 0, -mostCount}, []int64{2}},
		{append(begun(40, -1), mostCount), []int64{40}},
		{begun(2, 200000000), []int64{1, 1, 1, 1, 1, 1}},
		{begun(3, 100000000), []int64{1, 1, 1, 1, 1, 1}},
	}
	for _, c := range tooGreat {
		numerator, code := impl.NumeratorOf(c.a, c.degrees)
		wantNumbers(t, fmt.Sprintf("NumeratorOf(%v, %v)", c.a, c.degrees), numerator, code, nil, impl.ErrLimit)
	}
	for why, bad := range noSeries() {
		for _, degrees := range [][]int64{nil, {1}, {1, 40}} {
			numerator, code := impl.NumeratorOf(bad, degrees)
			wantNumbers(t, "NumeratorOf "+why, numerator, code, nil, impl.ErrRange)
		}
		for _, degrees := range noDegrees() {
			numerator, code := impl.NumeratorOf(bad, degrees)
			wantNumbers(t, "NumeratorOf "+why, numerator, code, nil, impl.ErrRange)
		}
	}
	for why, bad := range noDegrees() {
		// The last series has numbers that are too great for the degree 1.
		for _, a := range [][]int64{{1}, {1, 2, 3}, begun(41, 1), {mostCount, -mostCount, mostCount}} {
			numerator, code := impl.NumeratorOf(a, bad)
			wantNumbers(t, "NumeratorOf with "+why, numerator, code, nil, impl.ErrRange)
		}
	}
}

// TestNumeratorOnTheWay takes one degree after the other: what one of them makes too great is an
// error, even if the next one would make it small again.
func TestNumeratorOnTheWay(t *testing.T) {
	cases := []struct {
		a, degrees, want []int64
		code             int64
	}{
		// The degree 1 makes -10, 9, MaxCount + 1, and then it would be MaxCount - 8.
		{[]int64{-10, -1, mostCount}, []int64{1, 1}, nil, impl.ErrLimit},
		{[]int64{-10, 0, mostCount}, []int64{1, 1}, []int64{-10, 20, mostCount - 10}, impl.ErrNone},
		// The degree 1 makes MaxCount + 1 at 2; the degree 2 first makes MaxCount - 3 there.
		{[]int64{3, -1, mostCount}, []int64{1, 2}, nil, impl.ErrLimit},
		{[]int64{3, -1, mostCount}, []int64{2, 1}, []int64{3, -4, mostCount - 2}, impl.ErrNone},
		{[]int64{-3, 1, -mostCount}, []int64{1, 2}, nil, impl.ErrLimit},
		{[]int64{-3, 1, -mostCount}, []int64{2, 1}, []int64{-3, 4, 2 - mostCount}, impl.ErrNone},
		{[]int64{3, -1, mostCount}, []int64{40, 2, 30, 1, 20, 10}, []int64{3, -4, mostCount - 2}, impl.ErrNone},
	}
	for _, c := range cases {
		numerator, code := impl.NumeratorOf(c.a, c.degrees)
		wantNumbers(t, fmt.Sprintf("NumeratorOf(%v, %v)", c.a, c.degrees), numerator, code, c.want, c.code)
	}
}

func TestIsFromBehind(t *testing.T) {
	long := slices.Repeat([]int64{3}, 41)
	cases := []struct {
		a    []int64
		want bool
	}{
		{[]int64{1, 2, 1, 0}, true},
		{[]int64{1}, true},
		{[]int64{-1}, true},
		{[]int64{5, 0, 0}, true},
		{[]int64{1, 1}, true},
		{[]int64{1, 2}, false},
		{[]int64{1, -1}, false},
		{[]int64{1, 2, 2, 1}, true},
		{[]int64{1, 2, 2, 1, 0, 0, 0}, true},
		{[]int64{1, 2, 3, 1}, false},
		{[]int64{1, 2, 3, 2, 1}, true},
		{[]int64{1, 0, 0, 1}, true},
		{[]int64{1, 0, 0, 1, 0}, true},
		{[]int64{1, 0, 0, 2}, false},
		{[]int64{mostCount, -mostCount, mostCount}, true},
		{[]int64{mostCount, 0, -mostCount}, false},
		{[]int64{-1, 3, 3, -1}, true},
		// Zeros ahead stay.
		{[]int64{0, 1}, false},
		{[]int64{0, 1, 0}, false},
		{[]int64{0, 1, 1, 0}, false},
		// Not all numbers may be 0.
		{[]int64{0}, false},
		{[]int64{0, 0}, false},
		{zeros(41), false},
		{begun(41, 1), true},
		{begun(41, 0, 1), false},
		{append(begun(40, 1), 1), true},
		{append(begun(40, 1), 2), false},
		{long, true},
		{append(long[:40:40], 4), false},
		{append(long[:40:40], 0), true},
	}
	for _, c := range cases {
		yes, code := impl.IsFromBehind(c.a)
		if yes != c.want || code != impl.ErrNone {
			t.Errorf("IsFromBehind(%v) = %v, %d", c.a, yes, code)
		}
	}
	for why, bad := range noSeries() {
		yes, code := impl.IsFromBehind(bad)
		wantZero(t, "IsFromBehind "+why, !yes, code, impl.ErrRange)
	}
}

// TestIsFromBehindAgrees reverses random series, many of which are the same from behind.
func TestIsFromBehindAgrees(t *testing.T) {
	r := rand.New(rand.NewSource(23))
	found := 0
	for range 5000 {
		a := randomSeries(r, 1+r.Intn(6), 1)
		if r.Intn(2) == 0 {
			back := slices.Clone(a)
			slices.Reverse(back)
			a = append(slices.Concat(a, back), zeros(r.Intn(3))...)
		}
		kept := slices.Clone(a)
		for len(kept) > 0 && kept[len(kept)-1] == 0 {
			kept = kept[:len(kept)-1]
		}
		back := slices.Clone(kept)
		slices.Reverse(back)
		want := len(kept) > 0 && slices.Equal(kept, back)
		if want {
			found++
		}
		yes, code := impl.IsFromBehind(a)
		if yes != want || code != impl.ErrNone {
			t.Errorf("IsFromBehind(%v) = %v, %d", a, yes, code)
		}
	}
	if found < 1000 || found > 4000 {
		t.Errorf("%d of 5000 series are the same from behind", found)
	}
}

func TestCharacteristicOf(t *testing.T) {
	good := []struct {
		p, n int64
		g    impl.Matrix
		want []int64
	}{
		{5, 2, impl.Matrix{{0, 1}, {1, 0}}, []int64{1, 0, 4}},
		{5, 1, impl.Matrix{{1}}, []int64{1, 4}},
		{5, 1, impl.Matrix{{4}}, []int64{1, 1}},
		{2, 1, impl.Matrix{{1}}, []int64{1, 1}},
		{13, 1, impl.Matrix{{5}}, []int64{1, 8}},
		{5, 2, unitOf(2), []int64{1, 3, 1}},
		{2, 2, unitOf(2), []int64{1, 0, 1}},
		{7, 3, unitOf(3), []int64{1, 4, 3, 6}},
		{2, 3, unitOf(3), []int64{1, 1, 1, 1}},
		{3, 3, unitOf(3), []int64{1, 0, 0, 2}},
		{7, 3, impl.Matrix{{0, 1, 0}, {0, 0, 1}, {1, 0, 0}}, []int64{1, 0, 0, 6}},
		{11, 3, impl.Matrix{{1, 0, 0}, {0, 2, 0}, {0, 0, 3}}, []int64{1, 5, 0, 5}},
		{11, 3, impl.Matrix{{1, 7, 8}, {0, 2, 9}, {0, 0, 3}}, []int64{1, 5, 0, 5}},
		{7, 2, cycle48, []int64{1, 6, 3}},
		{13, 2, impl.Matrix{{12, 12}, {1, 12}}, []int64{1, 2, 2}},
		{5, 3, impl.Matrix{{1, 2, 3}, {4, 0, 1}, {2, 2, 1}}, []int64{1, 3, 0, 2}},
	}
	for _, c := range good {
		want := characteristicByHand(c.p, c.n, c.g)
		if !slices.Equal(want, c.want) {
			t.Errorf("the characteristic polynomial of %v is %v by hand, and told as %v", c.g, want, c.want)
		}
		numbers, code := impl.CharacteristicOf(c.p, c.n, c.g)
		wantNumbers(t, fmt.Sprintf("CharacteristicOf(%d, %d, %v)", c.p, c.n, c.g), numbers, code, c.want, impl.ErrNone)
	}
	for _, c := range noMatrices() {
		numbers, code := impl.CharacteristicOf(c.p, c.n, c.g)
		wantNumbers(t, "CharacteristicOf "+c.why, numbers, code, nil, impl.ErrRange)
	}
}

// TestCharacteristicAgrees takes tables of numbers of all sizes: those that are no matrices are
// refused, and the others have what is developed by hand.
func TestCharacteristicAgrees(t *testing.T) {
	for _, p := range primes {
		for n := int64(1); n <= 3; n++ {
			count := 0
			forTables(p, n, func(g impl.Matrix) {
				// All tables would take long.
				if count++; count > 1500 {
					return
				}
				var want []int64
				wantCode := int64(impl.ErrRange)
				if opened(n, g).determinant(p) != 0 {
					want, wantCode = characteristicByHand(p, n, g), impl.ErrNone
				}
				numbers, code := impl.CharacteristicOf(p, n, g)
				wantNumbers(t, fmt.Sprintf("CharacteristicOf(%d, %d, %v)", p, n, g), numbers, code, want, wantCode)
			})
		}
	}
}

func TestMolienSeries(t *testing.T) {
	good := []struct {
		g    impl.Group
		want []int64
	}{
		{named(t, "swap", 5), []int64{1, 1, 2, 2, 3, 3, 4, 4, 0, 0, 1}},
		{named(t, "swap", 3), []int64{1, 1, 2, 2, 0, 0, 1}},
		{named(t, "sign", 3), []int64{1, 0, 1, 0, 1}},
		{named(t, "sign", 2), []int64{1, 1, 1, 1}},
		{named(t, "turn", 2), []int64{1, 1, 0, 0, 1, 1, 0, 0, 1}},
		{named(t, "cube", 5), []int64{1, 0, 1, 0, 2, 0, 3, 0, 4, 0, 0}},
		{groupWith(2, 2, unitOf(2)), []int64{1, 0, 1, 0, 1}},
		{groupWith(3, 3, unitOf(3)), []int64{1, 0, 0, 1, 0, 0, 1}},
		{groupWith(7, 3, unitOf(3)), []int64{1, 3, 6, 3, 1, 0, 0, 1}},
		{multiplesOf(7, 3, 2), []int64{1, 0, 0, 3, 0, 0, 0}},
		{powersOf(13, 2), []int64{1, 0, 0, 0, 0, 0, 0, 0, 0, 0, 0, 0, 1, 0}},
	}
	for _, c := range good {
		for k := range c.want {
			series, code := impl.MolienSeries(c.g, int64(k))
			wantNumbers(t, fmt.Sprintf("MolienSeries(%v, %d)", c.g, k), series, code, c.want[:k+1], impl.ErrNone)
		}
	}
}

// TestMolienSeriesAgrees adds the series up by hand, up to MaxSeries, and holds those of groups with
// names against what is known.
func TestMolienSeriesAgrees(t *testing.T) {
	manyGroups(t, func(g impl.Group) {
		series, code := impl.MolienSeries(g, impl.MaxSeries)
		if int64(len(g.Elements))%g.Prime == 0 {
			wantNumbers(t, "MolienSeries", series, code, nil, impl.ErrState)
			return
		}
		wantNumbers(t, fmt.Sprintf("MolienSeries(%v)", g), series, code, molienByHand(g, impl.MaxSeries), impl.ErrNone)
	})
	for _, p := range primes {
		for _, name := range groupNames {
			g := named(t, name, p)
			if int64(len(g.Elements))%p == 0 {
				continue
			}
			series, code := impl.MolienSeries(g, impl.MaxSeries)
			want := modulo(p, knownSeries(t, name, p, impl.MaxSeries))
			wantNumbers(t, fmt.Sprintf("MolienSeries of %s for %d", name, p), series, code, want, impl.ErrNone)
		}
	}
}

func TestCycleType(t *testing.T) {
	good := []struct{ list, want []int64 }{
		{[]int64{1, 0, 2}, []int64{2, 1}},
		{[]int64{0}, []int64{1}},
		{[]int64{0, 1}, []int64{1, 1}},
		{[]int64{1, 0}, []int64{2}},
		{[]int64{0, 2, 3, 1}, []int64{3, 1}},
		{[]int64{2, 3, 0, 1}, []int64{2, 2}},
		{[]int64{0, 1, 2, 3, 4, 5, 6, 7}, []int64{1, 1, 1, 1, 1, 1, 1, 1}},
		{[]int64{1, 2, 3, 4, 5, 6, 7, 0}, []int64{8}},
		{[]int64{7, 6, 5, 4, 3, 2, 1, 0}, []int64{2, 2, 2, 2}},
		{[]int64{1, 0, 3, 4, 2, 6, 7, 5}, []int64{3, 3, 2}},
		{[]int64{0, 2, 1, 4, 5, 6, 7, 3}, []int64{5, 2, 1}},
	}
	for _, c := range good {
		lengths, code := impl.CycleType(c.list)
		wantNumbers(t, fmt.Sprintf("CycleType(%v)", c.list), lengths, code, c.want, impl.ErrNone)
	}
	for n := int64(1); n <= 7; n++ {
		for _, list := range permutations(n) {
			lengths, code := impl.CycleType(list)
			wantNumbers(t, fmt.Sprintf("CycleType(%v)", list), lengths, code, typeByHand(list), impl.ErrNone)
		}
	}
	for why, bad := range noPermutations() {
		lengths, code := impl.CycleType(bad)
		wantNumbers(t, "CycleType of "+why, lengths, code, nil, impl.ErrRange)
	}
}

// TestCycleTypeOfLists takes all lists of up to four numbers of -1 to 4: those that are no
// permutations are refused.
func TestCycleTypeOfLists(t *testing.T) {
	lists := [][]int64{{}}
	for range 4 {
		var longer [][]int64
		for _, list := range lists {
			for number := int64(-1); number <= 4; number++ {
				longer = append(longer, append(slices.Clone(list), number))
			}
		}
		lists = longer
		for _, list := range lists {
			sorted := slices.Sorted(slices.Values(list))
			var want []int64
			wantCode := int64(impl.ErrRange)
			if slices.Equal(sorted, []int64{0, 1, 2, 3}[:len(list)]) {
				want, wantCode = typeByHand(list), impl.ErrNone
			}
			lengths, code := impl.CycleType(list)
			wantNumbers(t, fmt.Sprintf("CycleType(%v)", list), lengths, code, want, wantCode)
		}
	}
}

// TestCycleTypeOfEight takes random permutations of eight numbers.
func TestCycleTypeOfEight(t *testing.T) {
	r := rand.New(rand.NewSource(24))
	for range 3000 {
		list := zeros(8)
		for i, number := range r.Perm(8) {
			list[i] = int64(number)
		}
		lengths, code := impl.CycleType(list)
		wantNumbers(t, fmt.Sprintf("CycleType(%v)", list), lengths, code, typeByHand(list), impl.ErrNone)
	}
}

func TestCountingSeries(t *testing.T) {
	eight := []int64{0, 1, 2, 3, 4, 5, 6, 7}
	good := []struct {
		lists [][]int64
		k     int64
		want  []int64
	}{
		{[][]int64{{0, 1}, {1, 0}}, 2, []int64{1, 1, 2}},
		{[][]int64{{0}}, 0, []int64{1}},
		{[][]int64{{0}}, 12, slices.Repeat([]int64{1}, 13)},
		{slices.Repeat([][]int64{{0}}, 120), 12, slices.Repeat([]int64{1}, 13)},
		{[][]int64{{1, 0}}, 5, []int64{1, 0, 1, 0, 1, 0}},
		{[][]int64{{1, 2, 0}}, 6, []int64{1, 0, 0, 1, 0, 0, 1}},
		{[][]int64{{0, 1, 2}, {1, 2, 0}, {2, 0, 1}}, 6, []int64{1, 1, 2, 4, 5, 7, 10}},
		// Lists that are no group can be divided too: there are 2 at 0 and at 3.
		{[][]int64{{1, 2, 0}, {2, 0, 1}}, 3, []int64{1, 0, 0, 1}},
		{permutations(5), 12, seriesByHand([]int64{1, 2, 3, 4, 5}, 12)},
		{[][]int64{eight}, 12, seriesByHand([]int64{1, 1, 1, 1, 1, 1, 1, 1}, 12)},
		{slices.Repeat([][]int64{eight}, 120), 12, seriesByHand([]int64{1, 1, 1, 1, 1, 1, 1, 1}, 12)},
		{[][]int64{{1, 2, 3, 4, 5, 6, 7, 0}}, 12, []int64{1, 0, 0, 0, 0, 0, 0, 0, 1, 0, 0, 0, 0}},
	}
	for _, c := range good {
		for k := int64(0); k <= c.k; k++ {
			series, code := impl.CountingSeries(c.lists, k)
			wantNumbers(t, fmt.Sprintf("CountingSeries(%v, %d)", c.lists, k), series, code, c.want[:k+1], impl.ErrNone)
		}
	}
}

func TestCountingSeriesCannotBeDivided(t *testing.T) {
	cases := []struct {
		lists [][]int64
		// Up to this k, and no further, numbers can be divided.
		most int64
		want []int64
	}{
		{[][]int64{{0, 1}, {1, 0}, {1, 0}}, 0, []int64{1}},
		{[][]int64{{0, 1}, {0, 1}, {1, 0}, {1, 0}, {1, 0}}, 0, []int64{1}},
		{[][]int64{{0, 1, 2}, {1, 2, 0}}, 0, []int64{1}},
		// Of the cycle types 4, 2 and 6, only the first one has something at 2.
		{[][]int64{{1, 2, 3, 0, 5, 4}, {1, 2, 3, 4, 5, 0}}, 1, []int64{1, 0}},
		// The same with 4, 4 and 8, of 4 lists with one of 4, 4: 2 at 4.
		{[][]int64{{1, 2, 3, 0, 5, 6, 7, 4}, {1, 2, 3, 4, 5, 6, 7, 0}, {1, 2, 3, 4, 5, 6, 7, 0}, {1, 2, 3, 4, 5, 6, 7, 0}}, 3, []int64{1, 0, 0, 0}},
		// 5, 3 and 8: 1 at 3.
		{[][]int64{{1, 2, 3, 4, 0, 6, 7, 5}, {1, 2, 3, 4, 5, 6, 7, 0}}, 2, []int64{1, 0, 0}},
	}
	for _, c := range cases {
		for k := int64(0); k <= 12; k++ {
			what := fmt.Sprintf("CountingSeries(%v, %d)", c.lists, k)
			series, code := impl.CountingSeries(c.lists, k)
			if k <= c.most {
				wantNumbers(t, what, series, code, c.want[:k+1], impl.ErrNone)
			} else {
				wantNumbers(t, what, series, code, nil, impl.ErrState)
			}
		}
		// What is in no range is found before what cannot be divided.
		for _, k := range []int64{-1, 13, math.MinInt64, math.MaxInt64} {
			series, code := impl.CountingSeries(c.lists, k)
			wantNumbers(t, fmt.Sprintf("CountingSeries(%v, %d)", c.lists, k), series, code, nil, impl.ErrRange)
		}
	}
}

func TestCountingSeriesErrors(t *testing.T) {
	for k, inside := range askedDegrees(12) {
		for _, lists := range [][][]int64{{{0}}, {{0, 1}, {1, 0}}, permutations(5)} {
			series, code := impl.CountingSeries(lists, k)
			if inside && (code != impl.ErrNone || int64(len(series)) != k+1) {
				t.Errorf("CountingSeries of %d lists, %d: %v, %d", len(lists), k, series, code)
			}
			if !inside {
				wantNumbers(t, fmt.Sprint("CountingSeries, ", k), series, code, nil, impl.ErrRange)
			}
		}
		for why, bad := range noPermutations() {
			fitting := zeros(len(bad))
			for i := range fitting {
				fitting[i] = int64(i)
			}
			for _, lists := range [][][]int64{{bad}, {bad, bad}, {{0}, bad}, {bad, {0}}, {{0, 1}, {1, 0}, bad}, {fitting, bad}, {bad, fitting}} {
				series, code := impl.CountingSeries(lists, k)
				wantNumbers(t, fmt.Sprintf("CountingSeries of %s, %d", why, k), series, code, nil, impl.ErrRange)
			}
		}
		refused := map[string][][]int64{
			"nil":                   nil,
			"no lists":              {},
			"121 lists":             slices.Repeat([][]int64{{0}}, 121),
			"121 lists of 5":        append(permutations(5), []int64{0, 1, 2, 3, 4}),
			"1000 lists":            slices.Repeat([][]int64{{1, 0}}, 1000),
			"another length":        {{0}, {0, 1}},
			"a shorter one":         {{0, 1, 2}, {1, 0}},
			"a longer one, last":    {{0, 1}, {1, 0}, {0, 1}, {0, 1, 2}},
			"120 lists, one longer": append(permutations(5)[:119], []int64{0, 1, 2, 3, 4, 5}),
		}
		for why, lists := range refused {
			series, code := impl.CountingSeries(lists, k)
			wantNumbers(t, fmt.Sprintf("CountingSeries of %s, %d", why, k), series, code, nil, impl.ErrRange)
		}
	}
}

// countingByHand adds up what the cycle types count, and divides it, if that can be done.
func countingByHand(lists [][]int64, k int64) ([]int64, int64) {
	sum := zeros(int(k) + 1)
	for _, list := range lists {
		for i, number := range seriesByHand(typeByHand(list), k) {
			sum[i] += number
		}
	}
	for i, number := range sum {
		if number%int64(len(lists)) != 0 {
			return nil, impl.ErrState
		}
		sum[i] = number / int64(len(lists))
	}
	return sum, impl.ErrNone
}

// TestCountingSeriesAgrees takes random permutations, which can seldom be divided, and powers of one
// of them, which always can.
func TestCountingSeriesAgrees(t *testing.T) {
	r := rand.New(rand.NewSource(25))
	refused, found := 0, 0
	for range 300 {
		n, k := 1+r.Intn(8), r.Int63n(13)
		var lists [][]int64
		for range 1 + r.Intn(4) {
			list := zeros(n)
			for i, number := range r.Perm(n) {
				list[i] = int64(number)
			}
			lists = append(lists, list)
		}
		want, wantCode := countingByHand(lists, k)
		if wantCode == impl.ErrNone {
			found++
		} else {
			refused++
		}
		series, code := impl.CountingSeries(lists, k)
		wantNumbers(t, fmt.Sprintf("CountingSeries(%v, %d)", lists, k), series, code, want, wantCode)
		powers := lists[:1]
		for {
			last, next := powers[len(powers)-1], zeros(n)
			for i, number := range lists[0] {
				next[i] = last[number]
			}
			if slices.Equal(next, lists[0]) {
				break
			}
			powers = append(powers[:len(powers):len(powers)], next)
		}
		series, code = impl.CountingSeries(powers, k)
		want, _ = countingByHand(powers, k)
		wantNumbers(t, fmt.Sprintf("CountingSeries(%v, %d)", powers, k), series, code, want, impl.ErrNone)
	}
	if refused < 50 || found < 50 {
		t.Errorf("%d lists cannot be divided, %d can", refused, found)
	}
}

// orbitsByHand counts the ways to put k marks on n places, up to the permutations of a group.
func orbitsByHand(lists [][]int64, k int64) int64 {
	n := len(lists[0])
	ways := [][]int64{zeros(n)}
	for range k {
		seen := map[string]bool{}
		var next [][]int64
		for _, way := range ways {
			for i := range n {
				more := slices.Clone(way)
				more[i]++
				if text := fmt.Sprint(more); !seen[text] {
					seen[text] = true
					next = append(next, more)
				}
			}
		}
		ways = next
	}
	orbits := map[string]bool{}
	for _, way := range ways {
		least := slices.Clone(way)
		for _, list := range lists {
			there := zeros(n)
			for i, number := range list {
				there[number] = way[i]
			}
			if slices.Compare(there, least) < 0 {
				least = there
			}
		}
		orbits[fmt.Sprint(least)] = true
	}
	return int64(len(orbits))
}

// TestCountingSeriesCounts counts orbits of groups of permutations.
func TestCountingSeriesCounts(t *testing.T) {
	groups := [][][]int64{
		permutations(1), permutations(2), permutations(3), permutations(4),
		{{0, 1, 2, 3}, {1, 2, 3, 0}, {2, 3, 0, 1}, {3, 0, 1, 2}},
		{{0, 1, 2, 3}, {1, 0, 3, 2}, {2, 3, 0, 1}, {3, 2, 1, 0}},
		{{0, 1, 2, 3}, {1, 2, 3, 0}, {2, 3, 0, 1}, {3, 0, 1, 2}, {3, 2, 1, 0}, {0, 3, 2, 1}, {1, 0, 3, 2}, {2, 1, 0, 3}},
		{{0, 1, 2, 3, 4}, {1, 2, 0, 4, 3}, {2, 0, 1, 3, 4}, {0, 1, 2, 4, 3}, {1, 2, 0, 3, 4}, {2, 0, 1, 4, 3}},
	}
	for _, lists := range groups {
		series, code := impl.CountingSeries(lists, 7)
		var want []int64
		for k := range int64(8) {
			want = append(want, orbitsByHand(lists, k))
		}
		wantNumbers(t, fmt.Sprintf("CountingSeries(%v)", lists), series, code, want, impl.ErrNone)
	}
}
