package tests

import (
	"fmt"
	"testing"

	"loop.example/g01285/impl"
)

// reflectionResults are calls of the functions that return polynomials, groups and lists, also those that
// could return an argument as it is.
func reflectionResults(t *testing.T) map[string]func(a *spaceArguments) spaceParts {
	poly, group := first[impl.Poly](t), first[impl.Group](t)
	lists, numbers := first[[][]int64](t), first[[]int64](t)
	ofPoly := func(f impl.Poly) spaceParts { return ofPolys([]impl.Poly{f}) }
	ofNumbers := func(list []int64) spaceParts { return ofLists([][]int64{list}) }
	ofGroup := func(g impl.Group) spaceParts {
		return spaceParts{{func() string { return fmt.Sprint(g) }, func() { overwrite(g.Elements, markMatrix) }}}
	}
	swap := impl.Matrix{{0, 1, 0}, {1, 0, 0}, {0, 0, 1}}
	letter := []impl.Poly{built(5, 1, term(2, 1))}
	return map[string]func(a *spaceArguments) spaceParts{
		"RootOfReflection":           func(a *spaceArguments) spaceParts { return ofNumbers(numbers(impl.RootOfReflection(5, 3, swap))) },
		"FormOfReflection":           func(a *spaceArguments) spaceParts { return ofPoly(poly(impl.FormOfReflection(5, 3, swap))) },
		"MirrorOf":                   func(a *spaceArguments) spaceParts { return ofLists(lists(impl.MirrorOf(5, 3, swap))) },
		"MirrorOf the unit":          func(a *spaceArguments) spaceParts { return ofLists(lists(impl.MirrorOf(5, 3, unitOf(3)))) },
		"ReflectionsOf":              func(a *spaceArguments) spaceParts { return ofNumbers(numbers(impl.ReflectionsOf(a.modular))) },
		"ReflectionGroup":            func(a *spaceArguments) spaceParts { return ofGroup(group(impl.ReflectionGroup(a.g))) },
		"ReflectionGroup, unit":      func(a *spaceArguments) spaceParts { return ofGroup(group(impl.ReflectionGroup(a.trivial))) },
		"ReflectionGroup, modular":   func(a *spaceArguments) spaceParts { return ofGroup(group(impl.ReflectionGroup(a.modular))) },
		"JacobianOf":                 func(a *spaceArguments) spaceParts { return ofPoly(poly(impl.JacobianOf(a.list[:2]))) },
		"JacobianOf one":             func(a *spaceArguments) spaceParts { return ofPoly(poly(impl.JacobianOf(letter))) },
		"MirrorProduct":              func(a *spaceArguments) spaceParts { return ofPoly(poly(impl.MirrorProduct(a.g))) },
		"MirrorProduct, unit":        func(a *spaceArguments) spaceParts { return ofPoly(poly(impl.MirrorProduct(a.trivial))) },
		"MirrorProduct, modular":     func(a *spaceArguments) spaceParts { return ofPoly(poly(impl.MirrorProduct(a.modular))) },
		"DicksonInvariant":           func(a *spaceArguments) spaceParts { return ofPoly(poly(impl.DicksonInvariant(2, 2, 1))) },
		"DicksonInvariant of letter": func(a *spaceArguments) spaceParts { return ofPoly(poly(impl.DicksonInvariant(2, 1, 0))) },
	}
}

func TestReflectionsShareNoMemory(t *testing.T) {
	wantOwnMemory(t, reflectionResults(t))
}

func TestPartsOfReflectionsShareNoMemory(t *testing.T) {
	wantOwnParts(t, reflectionResults(t))
}

func TestOtherReflectionResultsLeaveArguments(t *testing.T) {
	wantArgumentsLeft(t, map[string]func(a *spaceArguments){
		"IsMadeByReflections":       func(a *spaceArguments) { impl.IsMadeByReflections(a.g) },
		"IsMadeByReflections, unit": func(a *spaceArguments) { impl.IsMadeByReflections(a.trivial) },
		"DoDegreesFit":              func(a *spaceArguments) { impl.DoDegreesFit(a.g, a.exps[:2]) },
		"DoDegreesFit, unit":        func(a *spaceArguments) { impl.DoDegreesFit(a.trivial, a.exps[:2]) },
		"errors": func(a *spaceArguments) {
			a.modular.Elements[0], a.modular.Elements[1] = a.modular.Elements[1], a.modular.Elements[0]
			impl.ReflectionsOf(a.modular)
			impl.ReflectionGroup(a.modular)
			impl.IsMadeByReflections(a.modular)
			impl.DoDegreesFit(a.modular, a.exps[:2])
			impl.MirrorProduct(a.modular)
			a.modular.Elements[0], a.modular.Elements[1] = a.modular.Elements[1], a.modular.Elements[0]
			impl.DoDegreesFit(a.modular, a.exps[:2])
			impl.DoDegreesFit(a.g, a.exps)
			impl.DoDegreesFit(a.g, a.row[:2])
			impl.JacobianOf(a.list)
			impl.JacobianOf(a.list[:1])
			impl.JacobianOf([]impl.Poly{a.f, {}})
		},
	})
}
