package tests

import (
	"fmt"
	"slices"
	"testing"

	"loop.example/g01285/impl"
)

// spaceArguments are those of the calls below, all with marks in the spare capacity behind them.
type spaceArguments struct {
	g, trivial, modular impl.Group
	list, one           []impl.Poly
	f, letter, odd      impl.Poly
	exps, row, counts   []int64
	code, pair          impl.Code
	rows                [][]int64
}

func newSpaceArguments(t *testing.T) *spaceArguments {
	guarded := func(g impl.Group) impl.Group {
		g.Elements = withSpare(g.Elements, markMatrix)
		return g
	}
	spared := func(d int64, texts string) []impl.Poly {
		list := splitPolys(t, 5, d, texts)
		for i := range list {
			list[i].Terms = withSpare(list[i].Terms, mark)
		}
		return withSpare(list, impl.Poly{Prime: 99})
	}
	sparedRows := func(rows ...[]int64) [][]int64 {
		for i, row := range rows {
			rows[i] = withSpare(row, 99)
		}
		return withSpare(rows, nil)
	}
	return &spaceArguments{
		g:       guarded(named(t, "swap", 5)),
		trivial: guarded(groupWith(5, 2, unitOf(2))),
		modular: guarded(shears(5)),
		list:    spared(2, "1x+1y 1xy 1x+1y"),
		one:     spared(2, "1x2+1y2"),
		f:       spared(2, "1x2+1y2")[0],
		letter:  spared(1, "2x+3x2")[0],
		odd:     spared(2, "1x2y+4xy2")[0],
		exps:    withSpare([]int64{1, 1, 0}, 99),
		row:     withSpare([]int64{1, 0, 1}, 99),
		counts:  withSpare([]int64{1, 0, 0, 4}, 99),
		code:    codeWith(5, 3, sparedRows([]int64{1, 0, 2}, []int64{0, 1, 3})...),
		pair:    codeWith(5, 2, sparedRows([]int64{1, 2})...),
		rows:    sparedRows([]int64{2, 0, 4}, []int64{0, 0, 0}, []int64{2, 1, 2}, []int64{0, 1, 3}),
	}
}

// groups, polys, rowLists and numbers list those of the arguments.
func (a *spaceArguments) groups() []impl.Group  { return []impl.Group{a.g, a.trivial, a.modular} }
func (a *spaceArguments) rowLists() [][][]int64 { return [][][]int64{a.code.Rows, a.pair.Rows, a.rows} }
func (a *spaceArguments) polys() []impl.Poly {
	return slices.Concat(a.list, a.one, []impl.Poly{a.f, a.letter, a.odd})
}
func (a *spaceArguments) numbers() [][]int64 {
	return append(slices.Concat(a.rowLists()...), a.exps, a.row, a.counts)
}

// text tells all of the arguments, with what is in the spare capacities.
func (a *spaceArguments) text() string {
	text := fmt.Sprint(a.groups(), whole(a.list), whole(a.one), a.f, a.letter, a.odd, a.code, a.pair, a.rows)
	for _, g := range a.groups() {
		text += fmt.Sprint(whole(g.Elements))
	}
	for _, rows := range a.rowLists() {
		text += fmt.Sprint(whole(rows))
	}
	for _, f := range a.polys() {
		text += fmt.Sprint(whole(f.Terms))
	}
	for _, list := range a.numbers() {
		text += fmt.Sprint(list, whole(list))
	}
	return text
}

// spoil overwrites all memory of the arguments.
func (a *spaceArguments) spoil() {
	for _, g := range a.groups() {
		overwrite(g.Elements, markMatrix)
	}
	for _, f := range a.polys() {
		overwrite(f.Terms, mark)
	}
	overwrite(a.list, impl.Poly{})
	overwrite(a.one, impl.Poly{})
	for _, list := range a.numbers() {
		overwrite(list, 77)
	}
	for _, rows := range a.rowLists() {
		overwrite(rows, nil)
	}
}

// spacePart is a part of a result with memory of its own.
type spacePart struct {
	text  func() string
	spoil func()
}

// spaceParts are all parts of a result.
type spaceParts []spacePart

// text tells all of a result.
func (parts spaceParts) text() string {
	text := ""
	for _, part := range parts {
		text += part.text() + ";"
	}
	return text
}

// ofPolys returns the parts of a list of polynomials.
func ofPolys(list []impl.Poly) spaceParts {
	var parts spaceParts
	for _, f := range list {
		parts = append(parts, spacePart{func() string { return fmt.Sprint(f) }, func() { overwrite(f.Terms, mark) }})
	}
	return parts
}

// ofLists returns the parts of a list of lists of numbers.
func ofLists(lists [][]int64) spaceParts {
	var parts spaceParts
	for _, list := range lists {
		parts = append(parts, spacePart{func() string { return fmt.Sprint(list) }, func() { overwrite(list, 77) }})
	}
	return parts
}

// spaceResults are calls of the functions that return lists, also those that could return an argument
// as it is.
func spaceResults(t *testing.T) map[string]func(a *spaceArguments) spaceParts {
	polys, poly := first[[]impl.Poly](t), first[impl.Poly](t)
	lists, numbers := first[[][]int64](t), first[[]int64](t)
	ofPoly := func(f impl.Poly) spaceParts { return ofPolys([]impl.Poly{f}) }
	ofNumbers := func(list []int64) spaceParts { return ofLists([][]int64{list}) }
	return map[string]func(a *spaceArguments) spaceParts{
		"InvariantBasis":            func(a *spaceArguments) spaceParts { return ofPolys(polys(impl.InvariantBasis(a.g, 5))) },
		"InvariantBasis of 0":       func(a *spaceArguments) spaceParts { return ofPolys(polys(impl.InvariantBasis(a.g, 0))) },
		"InvariantBasis, unit":      func(a *spaceArguments) spaceParts { return ofPolys(polys(impl.InvariantBasis(a.trivial, 3))) },
		"InvariantBasis, modular":   func(a *spaceArguments) spaceParts { return ofPolys(polys(impl.InvariantBasis(a.modular, 6))) },
		"InvariantNumbers":          func(a *spaceArguments) spaceParts { return ofNumbers(numbers(impl.InvariantNumbers(a.g, 6))) },
		"ProductExponents":          func(a *spaceArguments) spaceParts { return ofLists(lists(impl.ProductExponents(a.list, 5))) },
		"ProductExponents of 0":     func(a *spaceArguments) spaceParts { return ofLists(lists(impl.ProductExponents(a.list, 0))) },
		"ProductExponents of one":   func(a *spaceArguments) spaceParts { return ofLists(lists(impl.ProductExponents(a.one, 2))) },
		"ProductOfList":             func(a *spaceArguments) spaceParts { return ofPoly(poly(impl.ProductOfList(a.list, a.exps))) },
		"ProductOfList, one":        func(a *spaceArguments) spaceParts { return ofPoly(poly(impl.ProductOfList(a.one, []int64{1}))) },
		"ProductOfList, none":       func(a *spaceArguments) spaceParts { return ofPoly(poly(impl.ProductOfList(a.one, []int64{0}))) },
		"ProductOfList, one of all": func(a *spaceArguments) spaceParts { return ofPoly(poly(impl.ProductOfList(a.list, []int64{0, 1, 0}))) },
		"GeneratedBasis":            func(a *spaceArguments) spaceParts { return ofPolys(polys(impl.GeneratedBasis(a.list, 6))) },
		"GeneratedBasis of 0":       func(a *spaceArguments) spaceParts { return ofPolys(polys(impl.GeneratedBasis(a.list, 0))) },
		"GeneratedBasis of itself":  func(a *spaceArguments) spaceParts { return ofPolys(polys(impl.GeneratedBasis(a.one, 2))) },
		"GeneratorsOf":              func(a *spaceArguments) spaceParts { return ofPolys(polys(impl.GeneratorsOf(a.g, 4))) },
		"GeneratorsOf, unit":        func(a *spaceArguments) spaceParts { return ofPolys(polys(impl.GeneratorsOf(a.trivial, 4))) },
		"GeneratorsOf, modular":     func(a *spaceArguments) spaceParts { return ofPolys(polys(impl.GeneratorsOf(a.modular, 6))) },
		"NeededNumbers":             func(a *spaceArguments) spaceParts { return ofNumbers(numbers(impl.NeededNumbers(a.g, 4))) },
		"RowOfPoly":                 func(a *spaceArguments) spaceParts { return ofNumbers(numbers(impl.RowOfPoly(a.f, 2))) },
		"PolyOfRow":                 func(a *spaceArguments) spaceParts { return ofPoly(poly(impl.PolyOfRow(5, 2, 2, a.row))) },
	}
}

func TestSpacesShareNoMemory(t *testing.T) {
	wantOwnMemory(t, spaceResults(t))
}

// wantOwnMemory overwrites the arguments of calls, and their results, with the spare capacities: results
// stay as they are in the one case, and arguments and other results in the other.
func wantOwnMemory(t *testing.T, results map[string]func(a *spaceArguments) spaceParts) {
	t.Helper()
	for name, call := range results {
		a := newSpaceArguments(t)
		unchanged := a.text()
		result := call(a)
		if a.text() != unchanged {
			t.Errorf("%s changes an argument", name)
		}
		if len(result) == 0 {
			t.Errorf("%s returns nothing", name)
		}
		kept := result.text()
		a.spoil()
		if result.text() != kept {
			t.Errorf("%s returns memory of an argument", name)
		}
		b := newSpaceArguments(t)
		other := call(b)
		for _, part := range other {
			part.spoil()
		}
		if b.text() != unchanged || result.text() != kept {
			t.Errorf("%s: who changes the result changes an argument, or another result", name)
		}
		if again := call(newSpaceArguments(t)); again.text() != kept {
			t.Errorf("%s returns %v at first and %v later", name, kept, again.text())
		}
	}
}

func TestPartsOfSpacesShareNoMemory(t *testing.T) {
	wantOwnParts(t, spaceResults(t))
}

// wantOwnParts overwrites the parts of each result one by one, with their spare capacity: all others stay
// as they are.
func wantOwnParts(t *testing.T, results map[string]func(a *spaceArguments) spaceParts) {
	t.Helper()
	for name, call := range results {
		kept := call(newSpaceArguments(t))
		for i := range kept {
			result := call(newSpaceArguments(t))
			result[i].spoil()
			for j, part := range result {
				if same := part.text() == kept[j].text(); same != (j != i) {
					t.Errorf("%s: the parts %d and %d share memory, or one cannot be overwritten", name, i, j)
				}
			}
		}
	}
}

func TestOtherSpaceResultsLeaveArguments(t *testing.T) {
	wantArgumentsLeft(t, map[string]func(a *spaceArguments){
		"IsGenerated":             func(a *spaceArguments) { impl.IsGenerated(a.list, a.f) },
		"IsGenerated by itself":   func(a *spaceArguments) { impl.IsGenerated(a.one, a.one[0]) },
		"IsGenerating":            func(a *spaceArguments) { impl.IsGenerating(a.g, a.list, 6) },
		"IsGenerating by nothing": func(a *spaceArguments) { impl.IsGenerating(a.g, a.list[:0], 6) },
		"errors": func(a *spaceArguments) {
			impl.InvariantBasis(a.g, 7)
			impl.InvariantNumbers(a.g, -1)
			impl.ProductExponents(a.list[:0], 3)
			impl.ProductExponents(a.list, 13)
			impl.ProductOfList(a.list, a.exps[:2])
			impl.ProductOfList(a.list, []int64{12, 1, 0})
			impl.GeneratedBasis(a.list, 13)
			impl.GeneratedBasis(a.list[:0], 2)
			impl.IsGenerated(a.list[:0], a.f)
			impl.IsGenerated(a.list, parsed(t, 5, 2, "1+1x"))
			impl.IsGenerating(a.modular, a.list, 3)
			impl.IsGenerating(a.g, a.list, 0)
			impl.GeneratorsOf(a.g, 0)
			impl.NeededNumbers(a.g, 7)
			impl.RowOfPoly(a.f, 13)
			impl.PolyOfRow(5, 2, 3, a.row)
			impl.PolyOfRow(4, 2, 2, a.row)
		},
	})
}

// wantArgumentsLeft makes calls, and finds their arguments unchanged.
func wantArgumentsLeft(t *testing.T, calls map[string]func(a *spaceArguments)) {
	t.Helper()
	for name, call := range calls {
		a := newSpaceArguments(t)
		unchanged := a.text()
		call(a)
		if a.text() != unchanged {
			t.Errorf("%s changes an argument", name)
		}
	}
}
