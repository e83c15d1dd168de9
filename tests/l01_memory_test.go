package tests

import (
	"fmt"
	"testing"

	"loop.example/g01285/impl"
)

// mark is what the tests write where a function must neither read nor write.
var mark = impl.Term{Exps: impl.Exps{9, 9, 9}, Value: 99}

// arguments are those of the calls below, all with marks in the spare capacity behind them.
type arguments struct {
	x, y    impl.Poly
	list    []impl.Poly
	numbers []int64
	rows    [][]int64
}

func newArguments(t *testing.T) *arguments {
	guarded := func(text string) impl.Poly {
		x := parsed(t, 5, 2, text)
		x.Terms = withSpare(x.Terms, mark)
		return x
	}
	return &arguments{
		x:       guarded("3+2x+1x2+4xy"),
		y:       guarded("1y+2x3"),
		list:    withSpare([]impl.Poly{guarded("1x+1y"), guarded("2")}, guarded("1")),
		numbers: withSpare([]int64{1, 1}, 99),
		rows: withSpare([][]int64{
			withSpare([]int64{0, 0, 2}, 99), withSpare([]int64{0, 2, 4}, 99), withSpare([]int64{3, 1, 4}, 99),
		}, []int64{99}),
	}
}

// text tells all of the arguments, with what is in the spare capacities.
func (a *arguments) text() string {
	text := fmt.Sprint(a.x, whole(a.x.Terms), a.y, whole(a.y.Terms), whole(a.list), whole(a.numbers), whole(a.rows))
	for _, x := range a.list {
		text += fmt.Sprint(whole(x.Terms))
	}
	for _, row := range a.rows {
		text += fmt.Sprint(whole(row))
	}
	return text
}

// spoil overwrites all memory of the arguments.
func (a *arguments) spoil() {
	overwrite(a.x.Terms, mark)
	overwrite(a.y.Terms, mark)
	for _, x := range a.list {
		overwrite(x.Terms, mark)
	}
	overwrite(a.list, impl.Poly{})
	overwrite(a.numbers, 77)
	for _, row := range a.rows {
		overwrite(row, 77)
	}
	overwrite(a.rows, nil)
}

// first drops the code of a call, which has to be ErrNone.
func first[T any](t *testing.T) func(T, int64) T {
	return func(result T, code int64) T {
		t.Helper()
		if code != impl.ErrNone {
			t.Errorf("code %d", code)
		}
		return result
	}
}

// polyCalls are calls of the functions that return polynomials, also those that could return an
// argument as it is.
func polyCalls(t *testing.T) map[string]func(a *arguments) impl.Poly {
	poly := first[impl.Poly](t)
	return map[string]func(a *arguments) impl.Poly{
		"MonomialOf":      func(a *arguments) impl.Poly { return poly(impl.MonomialOf(5, 2, a.numbers, 3)) },
		"AddPolys":        func(a *arguments) impl.Poly { return poly(impl.AddPolys(a.x, a.y, 2)) },
		"AddPolys 0":      func(a *arguments) impl.Poly { return poly(impl.AddPolys(a.x, a.y, 0)) },
		"AddPolys of 0":   func(a *arguments) impl.Poly { return poly(impl.AddPolys(a.x, built(5, 2), 1)) },
		"AddPolys to 0":   func(a *arguments) impl.Poly { return poly(impl.AddPolys(built(5, 2), a.y, 1)) },
		"AddPolys same":   func(a *arguments) impl.Poly { return poly(impl.AddPolys(a.x, a.x, 1)) },
		"MultiplyPolys":   func(a *arguments) impl.Poly { return poly(impl.MultiplyPolys(a.x, a.y)) },
		"MultiplyPolys 1": func(a *arguments) impl.Poly { return poly(impl.MultiplyPolys(a.x, built(5, 2, term(1)))) },
		"1 MultiplyPolys": func(a *arguments) impl.Poly { return poly(impl.MultiplyPolys(built(5, 2, term(1)), a.y)) },
		"PowerPoly 0":     func(a *arguments) impl.Poly { return poly(impl.PowerPoly(a.x, 0)) },
		"PowerPoly 1":     func(a *arguments) impl.Poly { return poly(impl.PowerPoly(a.x, 1)) },
		"PowerPoly 3":     func(a *arguments) impl.Poly { return poly(impl.PowerPoly(a.x, 3)) },
		"PartOfDegree 0":  func(a *arguments) impl.Poly { return poly(impl.PartOfDegree(a.x, 0)) },
		"PartOfDegree 2":  func(a *arguments) impl.Poly { return poly(impl.PartOfDegree(a.x, 2)) },
		"DerivativeOf":    func(a *arguments) impl.Poly { return poly(impl.DerivativeOf(a.x, 0)) },
		"SubstitutePoly":  func(a *arguments) impl.Poly { return poly(impl.SubstitutePoly(a.x, a.list)) },
		"SubstitutePoly of a letter": func(a *arguments) impl.Poly {
			return poly(impl.SubstitutePoly(built(5, 2, term(1, 1)), a.list))
		},
		"PartOfDegree of all": func(a *arguments) impl.Poly { return poly(impl.PartOfDegree(a.list[0], 1)) },
	}
}

func TestPolynomialsShareNoMemory(t *testing.T) {
	for name, call := range polyCalls(t) {
		a := newArguments(t)
		before := a.text()
		x := call(a)
		if a.text() != before {
			t.Errorf("%s changes an argument", name)
		}
		text := fmt.Sprint(x)
		a.spoil()
		if fmt.Sprint(x) != text {
			t.Errorf("%s returns memory of an argument", name)
		}
		b := newArguments(t)
		y := call(b)
		overwrite(y.Terms, mark)
		if b.text() != before {
			t.Errorf("%s: who changes the result changes an argument", name)
		}
		if z := call(newArguments(t)); fmt.Sprint(z) != text {
			t.Errorf("%s returns %v at first and %v later", name, text, z)
		}
	}
}

func TestOtherResultsLeaveArguments(t *testing.T) {
	calls := map[string]func(a *arguments){
		"IsPoly":        func(a *arguments) { impl.IsPoly(a.x) },
		"DegreeOf":      func(a *arguments) { impl.DegreeOf(a.x) },
		"IsHomogeneous": func(a *arguments) { impl.IsHomogeneous(a.x) },
		"CoefficientAt": func(a *arguments) { impl.CoefficientAt(a.x, a.numbers) },
		"ValueAt":       func(a *arguments) { impl.ValueAt(a.x, a.numbers) },
		"PolyText":      func(a *arguments) { impl.PolyText(a.x) },
		"ReduceRows":    func(a *arguments) { impl.ReduceRows(5, 3, a.rows) },
		"errors": func(a *arguments) {
			a.x.Prime = 7
			impl.AddPolys(a.x, a.y, 1)
			impl.MultiplyPolys(a.x, a.y)
			impl.SubstitutePoly(a.x, a.list)
			impl.ReduceRows(5, 2, a.rows)
			impl.ReduceRows(2, 3, a.rows)
			a.x.Prime = 5
		},
	}
	for name, call := range calls {
		a := newArguments(t)
		before := a.text()
		call(a)
		if a.text() != before {
			t.Errorf("%s changes an argument", name)
		}
	}
}

func TestReducedRowsShareNoMemory(t *testing.T) {
	rowsOf := first[[][]int64](t)
	for _, reduced := range []bool{false, true} {
		a := newArguments(t)
		if reduced {
			a.rows = [][]int64{withSpare([]int64{1, 0, 2}, 99), withSpare([]int64{0, 1, 3}, 99)}
		}
		before := a.text()
		rows := rowsOf(impl.ReduceRows(5, 3, a.rows))
		text := fmt.Sprint(rows)
		for i := range rows {
			fresh := rowsOf(impl.ReduceRows(5, 3, a.rows))
			overwrite(fresh[i], 77)
			for j := range rows {
				if j != i && fmt.Sprint(fresh[j]) != fmt.Sprint(rows[j]) {
					t.Errorf("the rows %d and %d of a reduced list share memory", i, j)
				}
			}
			if a.text() != before {
				t.Errorf("the row %d of a reduced list is memory of an argument", i)
			}
		}
		a.spoil()
		if fmt.Sprint(rows) != text {
			t.Errorf("a reduced list has memory of an argument")
		}
	}
}

func TestMonomialsShareNoMemory(t *testing.T) {
	list, _ := impl.MonomialsOf(3, 4)
	overwrite(list, impl.Exps{9, 9, 9})
	again, code := impl.MonomialsOf(3, 4)
	if code != impl.ErrNone || fmt.Sprint(again) != fmt.Sprint(monomials(3, 4)) {
		t.Errorf("MonomialsOf(3, 4) = %v, %d after a change of another result", again, code)
	}
}
