package tests

import (
	"fmt"
	"testing"

	"loop.example/g01285/impl"
)

// actionArguments are those of the calls below, all with marks in the spare capacity behind them.
type actionArguments struct {
	g, trivial, modular impl.Group
	f, left, none       impl.Poly
	m                   impl.Matrix
}

func newActionArguments(t *testing.T) *actionArguments {
	guarded := func(g impl.Group) impl.Group {
		g.Elements = withSpare(g.Elements, markMatrix)
		return g
	}
	spared := func(text string) impl.Poly {
		f := parsed(t, 5, 2, text)
		f.Terms = withSpare(f.Terms, mark)
		return f
	}
	return &actionArguments{
		g:       guarded(named(t, "square", 5)),
		trivial: guarded(groupWith(5, 2, unitOf(2))),
		modular: guarded(shears(5)),
		f:       spared("1x+2y"),
		left:    spared("3+1x2+1y2"),
		none:    spared("0"),
		m:       impl.Matrix{{1, 1}, {0, 1}},
	}
}

// groups and polys list those of the arguments.
func (a *actionArguments) groups() []impl.Group { return []impl.Group{a.g, a.trivial, a.modular} }
func (a *actionArguments) polys() []impl.Poly   { return []impl.Poly{a.f, a.left, a.none} }

// text tells all of the arguments, with what is in the spare capacities.
func (a *actionArguments) text() string {
	text := fmt.Sprint(a.groups(), a.polys(), a.m)
	for _, g := range a.groups() {
		text += fmt.Sprint(whole(g.Elements))
	}
	for _, f := range a.polys() {
		text += fmt.Sprint(whole(f.Terms))
	}
	return text
}

// spoil overwrites all memory of the arguments.
func (a *actionArguments) spoil() {
	for _, g := range a.groups() {
		overwrite(g.Elements, markMatrix)
	}
	for _, f := range a.polys() {
		overwrite(f.Terms, mark)
	}
}

// actionPolyCalls are calls of the functions that return one polynomial, also those that could
// return an argument as it is.
func actionPolyCalls(t *testing.T) map[string]func(a *actionArguments) impl.Poly {
	poly := first[impl.Poly](t)
	return map[string]func(a *actionArguments) impl.Poly{
		"LeadPoly":                func(a *actionArguments) impl.Poly { return poly(impl.LeadPoly(a.m, a.f)) },
		"LeadPoly by the unit":    func(a *actionArguments) impl.Poly { return poly(impl.LeadPoly(unitOf(2), a.f)) },
		"LeadPoly of 0":           func(a *actionArguments) impl.Poly { return poly(impl.LeadPoly(a.m, a.none)) },
		"OrbitSum":                func(a *actionArguments) impl.Poly { return poly(impl.OrbitSum(a.g, a.f)) },
		"OrbitSum of one":         func(a *actionArguments) impl.Poly { return poly(impl.OrbitSum(a.g, a.left)) },
		"OrbitSum by the unit":    func(a *actionArguments) impl.Poly { return poly(impl.OrbitSum(a.trivial, a.f)) },
		"OrbitProduct":            func(a *actionArguments) impl.Poly { return poly(impl.OrbitProduct(a.g, a.f)) },
		"OrbitProduct of one":     func(a *actionArguments) impl.Poly { return poly(impl.OrbitProduct(a.g, a.left)) },
		"OrbitProduct of 0":       func(a *actionArguments) impl.Poly { return poly(impl.OrbitProduct(a.g, a.none)) },
		"SymmetricFunction 0":     func(a *actionArguments) impl.Poly { return poly(impl.SymmetricFunction(a.g, a.f, 0)) },
		"SymmetricFunction 1":     func(a *actionArguments) impl.Poly { return poly(impl.SymmetricFunction(a.trivial, a.f, 1)) },
		"SymmetricFunction 2":     func(a *actionArguments) impl.Poly { return poly(impl.SymmetricFunction(a.g, a.f, 2)) },
		"PowerSum 1":              func(a *actionArguments) impl.Poly { return poly(impl.PowerSum(a.trivial, a.f, 1)) },
		"PowerSum 2":              func(a *actionArguments) impl.Poly { return poly(impl.PowerSum(a.g, a.f, 2)) },
		"TransferOf":              func(a *actionArguments) impl.Poly { return poly(impl.TransferOf(a.g, a.left)) },
		"TransferOf by the unit":  func(a *actionArguments) impl.Poly { return poly(impl.TransferOf(a.trivial, a.f)) },
		"ReynoldsOf":              func(a *actionArguments) impl.Poly { return poly(impl.ReynoldsOf(a.g, a.f)) },
		"ReynoldsOf an invariant": func(a *actionArguments) impl.Poly { return poly(impl.ReynoldsOf(a.g, a.left)) },
		"ReynoldsOf by the unit":  func(a *actionArguments) impl.Poly { return poly(impl.ReynoldsOf(a.trivial, a.f)) },
	}
}

func TestLedPolynomialsShareNoMemory(t *testing.T) {
	for name, call := range actionPolyCalls(t) {
		a := newActionArguments(t)
		unchanged := a.text()
		f := call(a)
		if a.text() != unchanged {
			t.Errorf("%s changes an argument", name)
		}
		text := fmt.Sprint(f)
		a.spoil()
		if fmt.Sprint(f) != text {
			t.Errorf("%s returns memory of an argument", name)
		}
		b := newActionArguments(t)
		overwrite(call(b).Terms, mark)
		if b.text() != unchanged {
			t.Errorf("%s: who changes the result changes an argument", name)
		}
		if again := call(newActionArguments(t)); fmt.Sprint(again) != text {
			t.Errorf("%s returns %v at first and %v later", name, text, again)
		}
	}
}

// TestOrbitsOfPolysShareNoMemory overwrites the polynomials of an orbit one by one, with their spare
// capacity, and the orbit itself.
func TestOrbitsOfPolysShareNoMemory(t *testing.T) {
	listOf := first[[]impl.Poly](t)
	calls := map[string]func(a *actionArguments) []impl.Poly{
		"OrbitOfPoly":             func(a *actionArguments) []impl.Poly { return listOf(impl.OrbitOfPoly(a.g, a.f)) },
		"OrbitOfPoly of one":      func(a *actionArguments) []impl.Poly { return listOf(impl.OrbitOfPoly(a.g, a.left)) },
		"OrbitOfPoly of 0":        func(a *actionArguments) []impl.Poly { return listOf(impl.OrbitOfPoly(a.g, a.none)) },
		"OrbitOfPoly by the unit": func(a *actionArguments) []impl.Poly { return listOf(impl.OrbitOfPoly(a.trivial, a.f)) },
	}
	for name, call := range calls {
		a := newActionArguments(t)
		unchanged := a.text()
		list := call(a)
		text := fmt.Sprint(list)
		for i := range list {
			fresh := call(a)
			overwrite(fresh[i].Terms, mark)
			for j := range list {
				if j != i && fmt.Sprint(fresh[j]) != fmt.Sprint(list[j]) {
					t.Errorf("%s: the polynomials %d and %d share memory", name, i, j)
				}
			}
			overwrite(fresh, impl.Poly{})
		}
		if a.text() != unchanged {
			t.Errorf("%s changes an argument, or returns its memory", name)
		}
		a.spoil()
		if fmt.Sprint(list) != text {
			t.Errorf("%s returns memory of an argument", name)
		}
	}
}

func TestOtherActionsLeaveArguments(t *testing.T) {
	calls := map[string]func(a *actionArguments){
		"IsInvariant":      func(a *actionArguments) { impl.IsInvariant(a.g, a.f) },
		"StabiliserOfPoly": func(a *actionArguments) { impl.StabiliserOfPoly(a.g, a.left) },
		"CharacterOf":      func(a *actionArguments) { impl.CharacterOf(a.g, a.left) },
		"errors": func(a *actionArguments) {
			impl.LeadPoly(impl.Matrix{{5, 5}, {5, 5}}, a.f)
			impl.OrbitProduct(a.modular, parsed(t, 5, 2, "1y3"))
			impl.SymmetricFunction(a.g, a.f, 9)
			impl.PowerSum(a.g, a.left, 12)
			impl.ReynoldsOf(a.modular, a.f)
			impl.CharacterOf(a.g, a.f)
			impl.CharacterOf(a.g, a.none)
			for _, call := range askedActions() {
				a.f.Prime = 7
				call(a.g, a.f)
				a.f.Prime = 5
				a.g.Elements[0], a.g.Elements[1] = a.g.Elements[1], a.g.Elements[0]
				call(a.g, a.f)
				a.g.Elements[0], a.g.Elements[1] = a.g.Elements[1], a.g.Elements[0]
			}
		},
	}
	for name, call := range calls {
		a := newActionArguments(t)
		unchanged := a.text()
		call(a)
		if a.text() != unchanged {
			t.Errorf("%s changes an argument", name)
		}
	}
}

// TestActionNumbersShareNoMemory overwrites lists of numbers and asks for them again.
func TestActionNumbersShareNoMemory(t *testing.T) {
	numbers := first[[]int64](t)
	calls := map[string]func(a *actionArguments) []int64{
		"StabiliserOfPoly":     func(a *actionArguments) []int64 { return numbers(impl.StabiliserOfPoly(a.g, a.f)) },
		"StabiliserOfPoly all": func(a *actionArguments) []int64 { return numbers(impl.StabiliserOfPoly(a.g, a.left)) },
		"CharacterOf":          func(a *actionArguments) []int64 { return numbers(impl.CharacterOf(a.g, a.left)) },
	}
	for name, call := range calls {
		a := newActionArguments(t)
		list := call(a)
		text := fmt.Sprint(list)
		overwrite(call(a), 77)
		if again := call(a); fmt.Sprint(again) != text || fmt.Sprint(list) != text {
			t.Errorf("%s returns %v at first and %v later", name, text, again)
		}
	}
}
