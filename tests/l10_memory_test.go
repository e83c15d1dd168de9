package tests

import (
	"fmt"
	"testing"

	"loop.example/g01285/impl"
)

// ofCode returns the parts of a code: its rows, and the list of them, which tells how long they are.
func ofCode(c impl.Code) spaceParts {
	lengths := func() string {
		text := ""
		for _, word := range c.Rows {
			text += fmt.Sprint(len(word), " ")
		}
		return text
	}
	return append(ofLists(c.Rows), spacePart{lengths, func() { overwrite(c.Rows, nil) }})
}

// codeResults are calls of the functions that return codes, lists and polynomials, also those that could return an
// argument as it is.
func codeResults(t *testing.T) map[string]func(a *spaceArguments) spaceParts {
	code, numbers, poly := first[impl.Code](t), first[[]int64](t), first[impl.Poly](t)
	ofNumbers := func(list []int64) spaceParts { return ofLists([][]int64{list}) }
	return map[string]func(a *spaceArguments) spaceParts{
		"CodeOf":                   func(a *spaceArguments) spaceParts { return ofCode(code(impl.CodeOf(5, 3, a.rows))) },
		"CodeOf, one row":          func(a *spaceArguments) spaceParts { return ofCode(code(impl.CodeOf(5, 3, a.rows[:1]))) },
		"CodeOf, reduced":          func(a *spaceArguments) spaceParts { return ofCode(code(impl.CodeOf(5, 3, a.code.Rows))) },
		"DualCode":                 func(a *spaceArguments) spaceParts { return ofCode(code(impl.DualCode(a.code))) },
		"DualCode of itself":       func(a *spaceArguments) spaceParts { return ofCode(code(impl.DualCode(a.pair))) },
		"DualCode of 0":            func(a *spaceArguments) spaceParts { return ofCode(code(impl.DualCode(codeWith(5, 2, a.rows[:0]...)))) },
		"WeightsOf":                func(a *spaceArguments) spaceParts { return ofNumbers(numbers(impl.WeightsOf(a.code))) },
		"TransformWeights":         func(a *spaceArguments) spaceParts { return ofNumbers(numbers(impl.TransformWeights(5, a.counts))) },
		"TransformWeights, itself": func(a *spaceArguments) spaceParts { return ofNumbers(numbers(impl.TransformWeights(2, a.row))) },
		"EnumeratorOf":             func(a *spaceArguments) spaceParts { return ofPolys([]impl.Poly{poly(impl.EnumeratorOf(5, a.counts))}) },
		"AddCodes":                 func(a *spaceArguments) spaceParts { return ofCode(code(impl.AddCodes(a.code, a.pair))) },
		"AddCodes, twice the same": func(a *spaceArguments) spaceParts { return ofCode(code(impl.AddCodes(a.code, a.code))) },
		"AddCodes, 0 behind":       func(a *spaceArguments) spaceParts { return ofCode(code(impl.AddCodes(a.pair, codeWith(5, 1)))) },
		"AddCodes, 0 ahead":        func(a *spaceArguments) spaceParts { return ofCode(code(impl.AddCodes(codeWith(5, 1), a.pair))) },
		"ExtendCode":               func(a *spaceArguments) spaceParts { return ofCode(code(impl.ExtendCode(a.code))) },
		"ExtendCode, pair":         func(a *spaceArguments) spaceParts { return ofCode(code(impl.ExtendCode(a.pair))) },
		"PunctureCode, first":      func(a *spaceArguments) spaceParts { return ofCode(code(impl.PunctureCode(a.code, 0))) },
		"PunctureCode, middle":     func(a *spaceArguments) spaceParts { return ofCode(code(impl.PunctureCode(a.code, 1))) },
		"PunctureCode, last":       func(a *spaceArguments) spaceParts { return ofCode(code(impl.PunctureCode(a.code, 2))) },
		"PunctureCode, pair":       func(a *spaceArguments) spaceParts { return ofCode(code(impl.PunctureCode(a.pair, 1))) },
		"ShortenCode, first":       func(a *spaceArguments) spaceParts { return ofCode(code(impl.ShortenCode(a.code, 0))) },
		"ShortenCode, middle":      func(a *spaceArguments) spaceParts { return ofCode(code(impl.ShortenCode(a.code, 1))) },
		"ShortenCode, last":        func(a *spaceArguments) spaceParts { return ofCode(code(impl.ShortenCode(a.code, 2))) },
		"ShortenCode, all rows": func(a *spaceArguments) spaceParts {
			return ofCode(code(impl.ShortenCode(codeWith(5, 3, a.rows[3]), 0)))
		},
		"NamedCode, repeat": func(a *spaceArguments) spaceParts { return ofCode(code(impl.NamedCode("repeat", 5, 3))) },
		"NamedCode, even":   func(a *spaceArguments) spaceParts { return ofCode(code(impl.NamedCode("even", 5, 3))) },
		"NamedCode, all":    func(a *spaceArguments) spaceParts { return ofCode(code(impl.NamedCode("all", 5, 3))) },
	}
}

func TestCodesShareNoMemory(t *testing.T) {
	wantOwnMemory(t, codeResults(t))
}

func TestPartsOfCodesShareNoMemory(t *testing.T) {
	wantOwnParts(t, codeResults(t))
}

func TestOtherCodeResultsLeaveArguments(t *testing.T) {
	wantArgumentsLeft(t, map[string]func(a *spaceArguments){
		"IsCode":               func(a *spaceArguments) { impl.IsCode(a.code) },
		"IsCode, not":          func(a *spaceArguments) { impl.IsCode(codeWith(5, 3, a.rows...)) },
		"DistanceOf":           func(a *spaceArguments) { impl.DistanceOf(a.code) },
		"IsSelfDual":           func(a *spaceArguments) { impl.IsSelfDual(a.pair) },
		"IsSelfDual, not":      func(a *spaceArguments) { impl.IsSelfDual(a.code) },
		"IsWordOf":             func(a *spaceArguments) { impl.IsWordOf(a.code, a.code.Rows[1]) },
		"IsWordOf, not":        func(a *spaceArguments) { impl.IsWordOf(a.code, a.row) },
		"CodeOf 0":             func(a *spaceArguments) { impl.CodeOf(5, 3, a.rows[1:2]) },
		"ShortenCode, nothing": func(a *spaceArguments) { impl.ShortenCode(a.pair, 0) },
		"errors": func(a *spaceArguments) {
			impl.CodeOf(4, 3, a.rows)
			impl.CodeOf(2, 3, a.rows)
			impl.CodeOf(5, 2, a.rows)
			impl.TransformWeights(4, a.counts)
			impl.TransformWeights(3, a.counts)
			impl.TransformWeights(5, a.counts[:1])
			impl.TransformWeights(5, a.counts[1:3])
			impl.EnumeratorOf(4, a.counts)
			impl.EnumeratorOf(5, a.counts[:1])
			impl.DistanceOf(codeWith(5, 3, a.rows[:0]...))
			impl.AddCodes(a.code, codeWith(3, 3, a.code.Rows...))
			impl.AddCodes(a.code, codeWith(7, 3, a.code.Rows...))
			impl.AddCodes(a.code, codeWith(5, 3, a.rows...))
			impl.AddCodes(a.code, codeWith(5, 8))
			impl.DualCode(codeWith(5, 3, a.rows...))
			impl.WeightsOf(codeWith(5, 3, a.rows...))
			impl.IsSelfDual(codeWith(5, 3, a.rows...))
			impl.ExtendCode(codeWith(5, 3, a.rows...))
			impl.PunctureCode(a.code, 3)
			impl.ShortenCode(a.code, -1)
			impl.IsWordOf(a.code, a.row[:2])
			impl.IsWordOf(a.code, a.counts)
		},
	})
}
