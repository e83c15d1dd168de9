package tests

import (
	"testing"

	"loop.example/g01285/impl"
)

// relationResults are calls of the functions that return lists of numbers.
func relationResults(t *testing.T) map[string]func(a *spaceArguments) spaceParts {
	lists, numbers := first[[][]int64](t), first[[]int64](t)
	ofNumbers := func(list []int64) spaceParts { return ofLists([][]int64{list}) }
	return map[string]func(a *spaceArguments) spaceParts{
		"RelationsOf":        func(a *spaceArguments) spaceParts { return ofLists(lists(impl.RelationsOf(a.list, 3))) },
		"RelationsOf, one":   func(a *spaceArguments) spaceParts { return ofLists(lists(impl.RelationsOf(a.list, 1))) },
		"RelationsOf, many":  func(a *spaceArguments) spaceParts { return ofLists(lists(impl.RelationsOf(a.list, 9))) },
		"ValuesOf":           func(a *spaceArguments) spaceParts { return ofNumbers(numbers(impl.ValuesOf(a.list, a.row[:2]))) },
		"ValuesOf, one":      func(a *spaceArguments) spaceParts { return ofNumbers(numbers(impl.ValuesOf(a.one, a.exps[:2]))) },
		"ValuesOf, as point": func(a *spaceArguments) spaceParts { return ofNumbers(numbers(impl.ValuesOf(a.list[:2], a.row[1:]))) },
	}
}

func TestRelationsShareNoMemory(t *testing.T) {
	wantOwnMemory(t, relationResults(t))
}

func TestPartsOfRelationsShareNoMemory(t *testing.T) {
	wantOwnParts(t, relationResults(t))
}

func TestOtherRelationResultsLeaveArguments(t *testing.T) {
	wantArgumentsLeft(t, map[string]func(a *spaceArguments){
		"CountRelations":           func(a *spaceArguments) { impl.CountRelations(a.list, 6) },
		"NewRelations":             func(a *spaceArguments) { impl.NewRelations(a.list, 6) },
		"NewRelations of 1":        func(a *spaceArguments) { impl.NewRelations(a.list, 1) },
		"NewRelations, one":        func(a *spaceArguments) { impl.NewRelations(a.one, 4) },
		"IsRelation":               func(a *spaceArguments) { impl.IsRelation(a.list[:2], 3, a.exps[:2]) },
		"IsRelation, one":          func(a *spaceArguments) { impl.IsRelation(a.one, 2, a.exps[:1]) },
		"IsRelation, none":         func(a *spaceArguments) { impl.IsRelation(a.one, 3, a.exps[:0]) },
		"NoetherNumber":            func(a *spaceArguments) { impl.NoetherNumber(a.g, 6) },
		"NoetherNumber, unit":      func(a *spaceArguments) { impl.NoetherNumber(a.trivial, 3) },
		"NoetherNumber, modular":   func(a *spaceArguments) { impl.NoetherNumber(a.modular, 6) },
		"ValuesOf, none":           func(a *spaceArguments) { impl.ValuesOf(a.list[:0], a.row) },
		"AreSameOrbits":            func(a *spaceArguments) { impl.AreSameOrbits(a.g, a.exps[:2], a.row[1:]) },
		"AreSameOrbits of itself":  func(a *spaceArguments) { impl.AreSameOrbits(a.modular, a.row[:2], a.row[:2]) },
		"CountOrbits":              func(a *spaceArguments) { impl.CountOrbits(a.g) },
		"CountOrbits, modular":     func(a *spaceArguments) { impl.CountOrbits(a.modular) },
		"SeparatesOrbits":          func(a *spaceArguments) { impl.SeparatesOrbits(a.g, a.list) },
		"SeparatesOrbits, not":     func(a *spaceArguments) { impl.SeparatesOrbits(a.trivial, a.one) },
		"SeparatesOrbits, nothing": func(a *spaceArguments) { impl.SeparatesOrbits(a.modular, a.list[:0]) },
		"CommonValues":             func(a *spaceArguments) { impl.CommonValues(a.g, a.list) },
		"CommonValues, nothing":    func(a *spaceArguments) { impl.CommonValues(a.modular, a.list[:0]) },
		"TransferNumber":           func(a *spaceArguments) { impl.TransferNumber(a.g, 6) },
		"TransferNumber, unit":     func(a *spaceArguments) { impl.TransferNumber(a.trivial, 0) },
		"TransferNumber, modular":  func(a *spaceArguments) { impl.TransferNumber(a.modular, 5) },
		"errors": func(a *spaceArguments) {
			impl.RelationsOf(a.list[:0], 3)
			impl.RelationsOf(a.list, 13)
			impl.CountRelations(a.list, -1)
			impl.NewRelations(a.list, 13)
			impl.IsRelation(a.list, 4, a.exps)
			impl.IsRelation(a.list[:2], 3, a.row)
			impl.NoetherNumber(a.g, 0)
			impl.TransferNumber(a.modular, 7)
			impl.ValuesOf(a.list, a.row)
			impl.AreSameOrbits(a.g, a.exps, a.row)
			impl.SeparatesOrbits(a.g, []impl.Poly{a.letter, a.f})
			impl.CommonValues(a.g, []impl.Poly{a.letter})
			a.f.Prime = 4
			impl.ValuesOf([]impl.Poly{a.f}, a.row[:2])
			impl.SeparatesOrbits(a.g, []impl.Poly{a.f})
			a.f.Prime = 5
		},
	})
}
