package tests

import (
	"testing"

	"loop.example/g01285/impl"
)

// parameterResults are calls of the functions that return lists, also those the results of which have the
// same Terms as an argument.
func parameterResults(t *testing.T) map[string]func(a *spaceArguments) spaceParts {
	polys, numbers := first[[]impl.Poly](t), first[[]int64](t)
	ofNumbers := func(list []int64) spaceParts { return ofLists([][]int64{list}) }
	// Of the group of the unit x2 + y2 is left beside x y, and x y beside x2 + y2.
	square := func(a *spaceArguments) []impl.Poly { return []impl.Poly{a.list[1], a.one[0]} }
	return map[string]func(a *spaceArguments) spaceParts{
		"RestNumbers":      func(a *spaceArguments) spaceParts { return ofNumbers(numbers(impl.RestNumbers(a.list, 5))) },
		"RestNumbers of 0": func(a *spaceArguments) spaceParts { return ofNumbers(numbers(impl.RestNumbers(a.one, 0))) },
		"SecondaryDegrees": func(a *spaceArguments) spaceParts { return ofNumbers(numbers(impl.SecondaryDegrees(a.g, a.list[:2]))) },
		"SecondaryDegrees, unit": func(a *spaceArguments) spaceParts {
			return ofNumbers(numbers(impl.SecondaryDegrees(a.trivial, square(a))))
		},
		"SecondaryInvariants": func(a *spaceArguments) spaceParts { return ofPolys(polys(impl.SecondaryInvariants(a.g, square(a), 1))) },
		"SecondaryInvariants of 0": func(a *spaceArguments) spaceParts {
			return ofPolys(polys(impl.SecondaryInvariants(a.g, a.list[:2], 0)))
		},
		"SecondaryInvariants, unit": func(a *spaceArguments) spaceParts {
			return ofPolys(polys(impl.SecondaryInvariants(a.trivial, square(a), 1)))
		},
		"AllSecondaries":       func(a *spaceArguments) spaceParts { return ofPolys(polys(impl.AllSecondaries(a.g, a.list[:2]))) },
		"AllSecondaries, two":  func(a *spaceArguments) spaceParts { return ofPolys(polys(impl.AllSecondaries(a.g, square(a)))) },
		"AllSecondaries, unit": func(a *spaceArguments) spaceParts { return ofPolys(polys(impl.AllSecondaries(a.trivial, square(a)))) },
	}
}

func TestParametersShareNoMemory(t *testing.T) {
	wantOwnMemory(t, parameterResults(t))
}

func TestPartsOfParametersShareNoMemory(t *testing.T) {
	wantOwnParts(t, parameterResults(t))
}

func TestOtherParameterResultsLeaveArguments(t *testing.T) {
	wantArgumentsLeft(t, map[string]func(a *spaceArguments){
		"RestNumber":                 func(a *spaceArguments) { impl.RestNumber(a.list, 6) },
		"RestNumber of one":          func(a *spaceArguments) { impl.RestNumber(a.one, 2) },
		"AreParameters":              func(a *spaceArguments) { impl.AreParameters(a.list[:2]) },
		"SecondaryNumber":            func(a *spaceArguments) { impl.SecondaryNumber(a.g, a.list[:2]) },
		"SecondaryNumber, unit":      func(a *spaceArguments) { impl.SecondaryNumber(a.trivial, a.list[:2]) },
		"CoinvariantNumber":          func(a *spaceArguments) { impl.CoinvariantNumber(a.g, 6) },
		"CoinvariantNumber, unit":    func(a *spaceArguments) { impl.CoinvariantNumber(a.trivial, 3) },
		"CoinvariantNumber, modular": func(a *spaceArguments) { impl.CoinvariantNumber(a.modular, 5) },
		"IsMultiple":                 func(a *spaceArguments) { impl.IsMultiple(a.list, a.f) },
		"IsMultiple of itself":       func(a *spaceArguments) { impl.IsMultiple(a.one, a.one[0]) },
		"FreeNumber":                 func(a *spaceArguments) { impl.FreeNumber(a.list, 7) },
		"AreFree":                    func(a *spaceArguments) { impl.AreFree(a.list[:2], 12) },
		"AreFree, not":               func(a *spaceArguments) { impl.AreFree(a.list, 12) },
		"errors": func(a *spaceArguments) {
			impl.RestNumber(a.list[:0], 3)
			impl.RestNumbers(a.list, 13)
			impl.AreParameters(a.list)
			impl.AreParameters(a.list[:0])
			impl.SecondaryNumber(a.modular, a.list[:2])
			impl.SecondaryNumber(a.g, a.list)
			impl.SecondaryDegrees(a.modular, a.list[:2])
			impl.SecondaryDegrees(a.g, []impl.Poly{a.one[0], a.one[0]})
			impl.SecondaryInvariants(a.g, a.list[:2], 7)
			impl.SecondaryInvariants(a.g, []impl.Poly{a.one[0], {}}, 1)
			impl.AllSecondaries(a.g, a.list[:1])
			impl.AllSecondaries(a.g, []impl.Poly{a.list[0], a.list[2]})
			impl.CoinvariantNumber(a.g, 7)
			impl.IsMultiple(a.list[:0], a.f)
			impl.IsMultiple(a.list, impl.Poly{})
			impl.FreeNumber(a.list, -1)
			impl.AreFree(a.list, 0)
		},
	})
}
