package tests

import (
	"fmt"
	"slices"
	"testing"

	"loop.example/g01285/impl"
)

// seriesArguments are those of the calls below, all with marks in the spare capacity behind them.
type seriesArguments struct {
	g, trivial, modular impl.Group
	a, b, one           []int64
	degrees             []int64
	list                []int64
	lists               [][]int64
}

func newSeriesArguments(t *testing.T) *seriesArguments {
	guarded := func(g impl.Group) impl.Group {
		g.Elements = withSpare(g.Elements, markMatrix)
		return g
	}
	spared := func(numbers ...int64) []int64 { return withSpare(numbers, 99) }
	return &seriesArguments{
		g:       guarded(named(t, "square", 5)),
		trivial: guarded(groupWith(5, 2, unitOf(2))),
		modular: guarded(shears(5)),
		a:       spared(1, -2, 3, 0, 5, 0, 0),
		b:       spared(2, 1, 0, 4),
		one:     spared(1, 0, 0, 0, 0, 0, 0),
		degrees: spared(3, 1, 2),
		list:    spared(1, 0, 2, 4, 5, 3),
		lists:   withSpare([][]int64{spared(1, 2, 0), spared(0, 1, 2), spared(2, 0, 1)}, spared(9)),
	}
}

// numbers lists those of the arguments that are lists of numbers.
func (a *seriesArguments) numbers() [][]int64 {
	return append([][]int64{a.a, a.b, a.one, a.degrees, a.list}, whole(a.lists)...)
}

// text tells all of the arguments, with what is in the spare capacities.
func (a *seriesArguments) text() string {
	text := fmt.Sprint(a.g, a.trivial, a.modular, whole(a.g.Elements), whole(a.trivial.Elements), whole(a.modular.Elements))
	for _, list := range a.numbers() {
		text += fmt.Sprint(list, whole(list))
	}
	return text
}

// spoil overwrites all memory of the arguments.
func (a *seriesArguments) spoil() {
	for _, g := range []impl.Group{a.g, a.trivial, a.modular} {
		overwrite(g.Elements, markMatrix)
	}
	for _, list := range a.numbers() {
		overwrite(list, 77)
	}
	overwrite(a.lists, nil)
}

// seriesCalls are calls of the functions that return lists of numbers, also those that could return
// an argument as it is.
func seriesCalls(t *testing.T) map[string]func(a *seriesArguments) []int64 {
	numbers := first[[]int64](t)
	return map[string]func(a *seriesArguments) []int64{
		"HilbertSeries":            func(a *seriesArguments) []int64 { return numbers(impl.HilbertSeries(a.g, 5)) },
		"HilbertSeries, the unit":  func(a *seriesArguments) []int64 { return numbers(impl.HilbertSeries(a.trivial, 5)) },
		"HilbertSeries, modular":   func(a *seriesArguments) []int64 { return numbers(impl.HilbertSeries(a.modular, 0)) },
		"MultiplySeries":           func(a *seriesArguments) []int64 { return numbers(impl.MultiplySeries(a.a, a.b)) },
		"MultiplySeries by itself": func(a *seriesArguments) []int64 { return numbers(impl.MultiplySeries(a.a, a.a)) },
		"MultiplySeries by 1":      func(a *seriesArguments) []int64 { return numbers(impl.MultiplySeries(a.a, a.one)) },
		"MultiplySeries of 1":      func(a *seriesArguments) []int64 { return numbers(impl.MultiplySeries(a.one, a.a)) },
		"ShiftSeries":              func(a *seriesArguments) []int64 { return numbers(impl.ShiftSeries(a.a, 2)) },
		"ShiftSeries by 0":         func(a *seriesArguments) []int64 { return numbers(impl.ShiftSeries(a.a, 0)) },
		"ShiftSeries by all":       func(a *seriesArguments) []int64 { return numbers(impl.ShiftSeries(a.a, 7)) },
		"SeriesOfDegrees":          func(a *seriesArguments) []int64 { return numbers(impl.SeriesOfDegrees(a.degrees, 9)) },
		"SeriesOfDegrees of none":  func(a *seriesArguments) []int64 { return numbers(impl.SeriesOfDegrees(a.degrees[:0], 9)) },
		"NumeratorOf":              func(a *seriesArguments) []int64 { return numbers(impl.NumeratorOf(a.a, a.degrees)) },
		"NumeratorOf, no degrees":  func(a *seriesArguments) []int64 { return numbers(impl.NumeratorOf(a.a, nil)) },
		"NumeratorOf, the same":    func(a *seriesArguments) []int64 { return numbers(impl.NumeratorOf(a.a, []int64{40})) },
		"NumeratorOf of degrees":   func(a *seriesArguments) []int64 { return numbers(impl.NumeratorOf(a.degrees, a.degrees)) },
		"CharacteristicOf":         func(a *seriesArguments) []int64 { return numbers(impl.CharacteristicOf(5, 2, a.g.Elements[3])) },
		"MolienSeries":             func(a *seriesArguments) []int64 { return numbers(impl.MolienSeries(a.g, 9)) },
		"MolienSeries, the unit":   func(a *seriesArguments) []int64 { return numbers(impl.MolienSeries(a.trivial, 9)) },
		"CycleType":                func(a *seriesArguments) []int64 { return numbers(impl.CycleType(a.list)) },
		"CycleType, of itself":     func(a *seriesArguments) []int64 { return numbers(impl.CycleType(a.list[:2:2])) },
		"CountingSeries":           func(a *seriesArguments) []int64 { return numbers(impl.CountingSeries(a.lists, 6)) },
		"CountingSeries of one":    func(a *seriesArguments) []int64 { return numbers(impl.CountingSeries(a.lists[1:2], 6)) },
	}
}

func TestSeriesShareNoMemory(t *testing.T) {
	for name, call := range seriesCalls(t) {
		a := newSeriesArguments(t)
		unchanged := a.text()
		list := call(a)
		if a.text() != unchanged {
			t.Errorf("%s changes an argument", name)
		}
		if len(list) == 0 {
			t.Errorf("%s returns nothing", name)
		}
		kept := slices.Clone(list)
		a.spoil()
		if !slices.Equal(list, kept) {
			t.Errorf("%s returns memory of an argument", name)
		}
		b := newSeriesArguments(t)
		overwrite(call(b), 77)
		if b.text() != unchanged {
			t.Errorf("%s: who changes the result changes an argument", name)
		}
		if again := call(newSeriesArguments(t)); !slices.Equal(again, kept) {
			t.Errorf("%s returns %v at first and %v later", name, kept, again)
		}
	}
}

func TestOtherSeriesResultsLeaveArguments(t *testing.T) {
	calls := map[string]func(a *seriesArguments){
		"InvariantDimension": func(a *seriesArguments) { impl.InvariantDimension(a.g, 6) },
		"IsFromBehind":       func(a *seriesArguments) { impl.IsFromBehind(a.a) },
		"errors": func(a *seriesArguments) {
			impl.InvariantDimension(a.g, 9)
			impl.HilbertSeries(a.g, -1)
			impl.MolienSeries(a.modular, 3)
			impl.MultiplySeries(a.a, []int64{1, impl.MaxCount, impl.MaxCount})
			impl.MultiplySeries(a.a, []int64{impl.MaxCount + 1})
			impl.ShiftSeries(a.a, 41)
			impl.SeriesOfDegrees(a.degrees, 41)
			impl.SeriesOfDegrees(a.a, 4)
			impl.NumeratorOf(a.a, a.b)
			impl.IsFromBehind(nil)
			impl.CharacteristicOf(5, 3, a.g.Elements[0])
			impl.CycleType(a.a)
			impl.CountingSeries(a.lists[:2], 6)
			impl.CountingSeries(append(a.lists[:2:2], a.list), 6)
			impl.CountingSeries(a.lists, 13)
		},
	}
	for name, call := range calls {
		a := newSeriesArguments(t)
		unchanged := a.text()
		call(a)
		if a.text() != unchanged {
			t.Errorf("%s changes an argument", name)
		}
	}
	// Numbers that become too great have been changed on the way, but not in the argument.
	great := withSpare([]int64{1, -impl.MaxCount, 1, impl.MaxCount}, 99)
	text := fmt.Sprint(whole(great))
	if _, code := impl.NumeratorOf(great, []int64{1, 1}); code != impl.ErrLimit || fmt.Sprint(whole(great)) != text {
		t.Errorf("NumeratorOf: code %d, and %v of %s", code, whole(great), text)
	}
}
