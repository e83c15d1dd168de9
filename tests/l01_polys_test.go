package tests

import (
	"fmt"
	"math"
	"math/rand"
	"strings"
	"testing"

	"loop.example/g01285/impl"
)

// noPrimes are numbers that are no primes of the document.
var noPrimes = []int64{math.MinInt64, -5, -2, -1, 0, 1, 4, 6, 8, 9, 10, 12, 14, 15, 17, 258, math.MaxInt64}

func TestConstants(t *testing.T) {
	got := []int64{impl.ErrNone, impl.ErrInvalid, impl.ErrRange, impl.ErrLimit, impl.ErrNotFound, impl.ErrState, impl.ErrSyntax}
	for i, code := range got {
		if code != int64(i) {
			t.Errorf("error code %d = %d", i, code)
		}
	}
	if impl.MaxVars != 3 || impl.MaxDegree != 12 || impl.MaxRows != 100 {
		t.Errorf("limits %d, %d, %d", impl.MaxVars, impl.MaxDegree, impl.MaxRows)
	}
}

func TestIsPoly(t *testing.T) {
	for _, p := range primes {
		for d := int64(1); d <= 3; d++ {
			if !impl.IsPoly(built(p, d)) || !impl.IsPoly(impl.Poly{Prime: p, Vars: d, Terms: []impl.Term{}}) {
				t.Errorf("0 modulo %d in %d letters is a polynomial", p, d)
			}
			all := built(p, d)
			for n := int64(0); n <= 12; n++ {
				for _, e := range monomials(d, n) {
					all.Terms = append(all.Terms, impl.Term{Exps: e, Value: 1 + int64(len(all.Terms))%(p-1)})
				}
			}
			if !impl.IsPoly(all) {
				t.Errorf("all monomials modulo %d in %d letters make a polynomial", p, d)
			}
		}
	}
	if !impl.IsPoly(built(13, 3, term(12), term(1, 0, 0, 12))) {
		t.Errorf("12+1z12 is a polynomial modulo 13")
	}
	for why, x := range badPolys() {
		if impl.IsPoly(x) {
			t.Errorf("%s: %v is no polynomial", why, x)
		}
	}
	for _, p := range noPrimes {
		if impl.IsPoly(built(p, 1)) || impl.IsPoly(built(p, 1, term(1, 1))) {
			t.Errorf("no polynomial modulo %d", p)
		}
	}
	for _, d := range []int64{math.MinInt64, -1, 0, 4, 256 + 1, math.MaxInt64} {
		if impl.IsPoly(built(2, d)) || impl.IsPoly(built(2, d, term(1, 1))) {
			t.Errorf("no polynomial in %d letters", d)
		}
	}
}

// TestIsPolyOrder holds each two monomials against each other: exactly the ascending pairs are
// polynomials.
func TestIsPolyOrder(t *testing.T) {
	var list []impl.Exps
	for n := int64(0); n <= 4; n++ {
		list = append(list, monomials(3, n)...)
	}
	for i, e := range list {
		for j, f := range list {
			x := built(3, 3, impl.Term{Exps: e, Value: 1}, impl.Term{Exps: f, Value: 2})
			if impl.IsPoly(x) != (i < j) {
				t.Errorf("IsPoly(%v) = %v", x, i >= j)
			}
		}
	}
}

func TestMonomialOf(t *testing.T) {
	good := []struct {
		p, d  int64
		exps  []int64
		value int64
		want  impl.Poly
	}{
		{5, 2, []int64{1, 2}, 3, built(5, 2, term(3, 1, 2))},
		{2, 1, []int64{0}, 1, built(2, 1, term(1))},
		{13, 3, []int64{0, 0, 12}, 12, built(13, 3, term(12, 0, 0, 12))},
		{3, 3, []int64{4, 4, 4}, 1, built(3, 3, term(1, 4, 4, 4))},
		{7, 1, []int64{12}, 6, built(7, 1, term(6, 12))},
		{5, 2, []int64{1, 2}, 0, built(5, 2)},
	}
	for _, c := range good {
		x, code := impl.MonomialOf(c.p, c.d, c.exps, c.value)
		wantPoly(t, fmt.Sprintf("MonomialOf(%v)", c), x, code, c.want)
	}
	bad := []struct {
		p, d  int64
		exps  []int64
		value int64
		want  int64
	}{
		{5, 0, nil, 1, impl.ErrRange},
		{5, -1, nil, 1, impl.ErrRange},
		{5, 4, []int64{1, 1, 1, 1}, 1, impl.ErrRange},
		{5, 2, nil, 1, impl.ErrRange},
		{5, 2, []int64{1}, 1, impl.ErrRange},
		{5, 2, []int64{1, 1, 0}, 1, impl.ErrRange},
		{5, 2, []int64{-1, 1}, 1, impl.ErrRange},
		{5, 2, []int64{1, math.MinInt64}, 1, impl.ErrRange},
		{5, 2, []int64{1, 1}, -1, impl.ErrRange},
		{5, 2, []int64{1, 1}, 5, impl.ErrRange},
		{5, 2, []int64{1, 1}, math.MaxInt64, impl.ErrRange},
		{5, 1, []int64{13}, 1, impl.ErrLimit},
		{5, 2, []int64{7, 6}, 3, impl.ErrLimit},
		{5, 3, []int64{4, 4, 5}, 3, impl.ErrLimit},
		{5, 2, []int64{7, 6}, 0, impl.ErrLimit},
		{5, 1, []int64{256}, 1, impl.ErrLimit},
		{5, 2, []int64{128, 128}, 1, impl.ErrLimit},
		{5, 2, []int64{math.MaxInt64, math.MaxInt64}, 1, impl.ErrLimit},
		{5, 3, []int64{math.MaxInt64, math.MaxInt64, 2}, 1, impl.ErrLimit},
		{5, 1, []int64{math.MaxInt64}, 1, impl.ErrLimit},
		{4, 1, []int64{13}, 1, impl.ErrRange},
		{5, 2, []int64{13, -1}, 1, impl.ErrRange},
		{5, 1, []int64{13}, 5, impl.ErrRange},
		{5, 2, []int64{13}, 1, impl.ErrRange},
	}
	for _, c := range bad {
		x, code := impl.MonomialOf(c.p, c.d, c.exps, c.value)
		wantNoPoly(t, fmt.Sprintf("MonomialOf(%v)", c), x, code, c.want)
	}
	for _, p := range noPrimes {
		x, code := impl.MonomialOf(p, 1, []int64{1}, 1)
		wantNoPoly(t, fmt.Sprintf("MonomialOf for %d", p), x, code, impl.ErrRange)
	}
}

func TestAddPolys(t *testing.T) {
	good := []struct {
		p, d int64
		x, y string
		k    int64
		want string
	}{
		{5, 2, "3+2x+1x2+4xy", "1x+1y", 3, "3+3y+1x2+4xy"},
		{5, 2, "1x", "1x", 4, "0"},
		{5, 2, "1x", "1y", 0, "1x"},
		{5, 2, "0", "2y", 3, "1y"},
		{5, 2, "2y", "0", 3, "2y"},
		{5, 2, "0", "0", 4, "0"},
		{2, 1, "1+1x", "1x+1x12", 1, "1+1x12"},
		{13, 3, "12z12", "12z12", 12, "0"},
		{7, 3, "1z", "1y+1x12", 6, "6y+1z+6x12"},
		{3, 1, "1x", "1x", 1, "2x"},
	}
	for _, c := range good {
		x, code := impl.AddPolys(parsed(t, c.p, c.d, c.x), parsed(t, c.p, c.d, c.y), c.k)
		wantPoly(t, fmt.Sprintf("AddPolys(%v)", c), x, code, parsed(t, c.p, c.d, c.want))
	}
	one := parsed(t, 5, 2, "1x")
	for _, k := range []int64{-1, 5, 6, math.MinInt64, math.MaxInt64} {
		x, code := impl.AddPolys(one, one, k)
		wantNoPoly(t, fmt.Sprintf("AddPolys times %d", k), x, code, impl.ErrRange)
	}
	for _, y := range []impl.Poly{parsed(t, 5, 1, "1x"), parsed(t, 5, 3, "1x"), parsed(t, 7, 2, "1x"), parsed(t, 5, 1, "0")} {
		x, code := impl.AddPolys(one, y, 1)
		wantNoPoly(t, fmt.Sprintf("AddPolys of %v", y), x, code, impl.ErrRange)
		x, code = impl.AddPolys(y, one, 1)
		wantNoPoly(t, fmt.Sprintf("AddPolys to %v", y), x, code, impl.ErrRange)
	}
	for why, y := range badPolys() {
		x, code := impl.AddPolys(one, y, -1)
		wantNoPoly(t, "AddPolys of "+why, x, code, impl.ErrInvalid)
		x, code = impl.AddPolys(y, one, 9)
		wantNoPoly(t, "AddPolys to "+why, x, code, impl.ErrInvalid)
	}
}

func TestMultiplyPolys(t *testing.T) {
	good := []struct {
		p, d       int64
		x, y, want string
	}{
		{5, 2, "1x+1y", "1x+4y", "1x2+4y2"},
		{2, 2, "1x+1y", "1x+1y", "1x2+1y2"},
		{5, 1, "1x6", "3x6", "3x12"},
		{5, 1, "1x12", "2", "2x12"},
		{5, 1, "0", "1x12", "0"},
		{5, 1, "1x12", "0", "0"},
		{5, 3, "0", "0", "0"},
		{3, 3, "2+1x", "1y+2z", "2y+1z+1xy+2xz"},
		{13, 3, "12z6", "12y6", "1y6z6"},
		{7, 1, "4", "2", "1"},
	}
	for _, c := range good {
		x, code := impl.MultiplyPolys(parsed(t, c.p, c.d, c.x), parsed(t, c.p, c.d, c.y))
		wantPoly(t, fmt.Sprintf("MultiplyPolys(%v)", c), x, code, parsed(t, c.p, c.d, c.want))
	}
	limits := []struct{ x, y string }{{"1x6", "1x7"}, {"1x12", "1y"}, {"1x", "1+1xy11"}, {"1x12", "1y12"}}
	for _, c := range limits {
		x, code := impl.MultiplyPolys(parsed(t, 5, 2, c.x), parsed(t, 5, 2, c.y))
		wantNoPoly(t, fmt.Sprintf("MultiplyPolys(%v)", c), x, code, impl.ErrLimit)
	}
	high := parsed(t, 5, 2, "1x12")
	for _, y := range []impl.Poly{parsed(t, 5, 1, "1x12"), parsed(t, 7, 2, "1x12"), parsed(t, 5, 3, "0")} {
		x, code := impl.MultiplyPolys(high, y)
		wantNoPoly(t, fmt.Sprintf("MultiplyPolys by %v", y), x, code, impl.ErrRange)
		x, code = impl.MultiplyPolys(y, high)
		wantNoPoly(t, fmt.Sprintf("MultiplyPolys of %v", y), x, code, impl.ErrRange)
	}
	for why, y := range badPolys() {
		x, code := impl.MultiplyPolys(high, y)
		wantNoPoly(t, "MultiplyPolys by "+why, x, code, impl.ErrInvalid)
		x, code = impl.MultiplyPolys(y, high)
		wantNoPoly(t, "MultiplyPolys of "+why, x, code, impl.ErrInvalid)
	}
}

func TestPowerPoly(t *testing.T) {
	good := []struct {
		p, d int64
		x    string
		k    int64
		want string
	}{
		{3, 2, "1x+1y", 3, "1x3+1y3"},
		{3, 2, "1x+1y", 0, "1"},
		{3, 2, "0", 0, "1"},
		{3, 2, "0", 1, "0"},
		{3, 2, "0", 12, "0"},
		{3, 2, "1x12", 0, "1"},
		{3, 2, "2x12", 1, "2x12"},
		{5, 1, "2", 12, "1"},
		{5, 1, "2", 11, "3"},
		{2, 1, "1+1x", 12, "1+1x4+1x8+1x12"},
		{5, 3, "1x4", 3, "1x12"},
		{7, 2, "1x+6y", 2, "1x2+5xy+1y2"},
	}
	for _, c := range good {
		x, code := impl.PowerPoly(parsed(t, c.p, c.d, c.x), c.k)
		wantPoly(t, fmt.Sprintf("PowerPoly(%v)", c), x, code, parsed(t, c.p, c.d, c.want))
	}
	bad := []struct {
		x    string
		k    int64
		want int64
	}{
		{"1x", -1, impl.ErrRange},
		{"1x", 13, impl.ErrRange},
		{"0", 13, impl.ErrRange},
		{"1", -1, impl.ErrRange},
		{"1x12", 13, impl.ErrRange},
		{"1x", math.MaxInt64, impl.ErrRange},
		{"1x", math.MinInt64, impl.ErrRange},
		{"1x3", 5, impl.ErrLimit},
		{"1+1x12", 2, impl.ErrLimit},
		{"1x2", 7, impl.ErrLimit},
		{"1x12", 12, impl.ErrLimit},
	}
	for _, c := range bad {
		x, code := impl.PowerPoly(parsed(t, 3, 2, c.x), c.k)
		wantNoPoly(t, fmt.Sprintf("PowerPoly(%v)", c), x, code, c.want)
	}
	for why, y := range badPolys() {
		x, code := impl.PowerPoly(y, 13)
		wantNoPoly(t, "PowerPoly of "+why, x, code, impl.ErrInvalid)
	}
}

func TestDegreeOf(t *testing.T) {
	for text, want := range map[string]int64{"0": -1, "4": 0, "1x": 1, "3+2x+1x2+4xy": 2, "1+1y12": 12, "1x4y4z4": 12} {
		n, code := impl.DegreeOf(parsed(t, 5, 3, text))
		wantNumber(t, "DegreeOf "+text, n, code, want, impl.ErrNone)
	}
	for why, x := range badPolys() {
		n, code := impl.DegreeOf(x)
		wantNumber(t, "DegreeOf "+why, n, code, 0, impl.ErrInvalid)
	}
}

func TestIsHomogeneous(t *testing.T) {
	for text, want := range map[string]bool{
		"0": true, "3": true, "1x": true, "1x+2y": true, "1x3+1x2y+1y3": true, "1x4y4z4": true,
		"1+1x": false, "1x+1x2": false, "1y+1x12": false, "1x2+1xy+1x3": false, "1+1x+1y": false,
	} {
		yes, code := impl.IsHomogeneous(parsed(t, 5, 3, text))
		if yes != want || code != impl.ErrNone {
			t.Errorf("IsHomogeneous(%s) = %v, %d", text, yes, code)
		}
	}
	for why, x := range badPolys() {
		if yes, code := impl.IsHomogeneous(x); yes || code != impl.ErrInvalid {
			t.Errorf("IsHomogeneous of %s = %v, %d", why, yes, code)
		}
	}
}

func TestPartOfDegree(t *testing.T) {
	x := parsed(t, 5, 2, "3+2x+1x2+4xy+2y12")
	for n, want := range []string{"3", "2x", "1x2+4xy", "0", "0", "0", "0", "0", "0", "0", "0", "0", "2y12"} {
		y, code := impl.PartOfDegree(x, int64(n))
		wantPoly(t, fmt.Sprintf("PartOfDegree %d", n), y, code, parsed(t, 5, 2, want))
		y, code = impl.PartOfDegree(parsed(t, 7, 3, "0"), int64(n))
		wantPoly(t, fmt.Sprintf("PartOfDegree %d of 0", n), y, code, built(7, 3))
	}
	for _, n := range []int64{-1, 13, math.MinInt64, math.MaxInt64} {
		y, code := impl.PartOfDegree(x, n)
		wantNoPoly(t, fmt.Sprintf("PartOfDegree %d", n), y, code, impl.ErrRange)
		y, code = impl.PartOfDegree(parsed(t, 5, 2, "0"), n)
		wantNoPoly(t, fmt.Sprintf("PartOfDegree %d of 0", n), y, code, impl.ErrRange)
	}
	for why, x := range badPolys() {
		y, code := impl.PartOfDegree(x, -1)
		wantNoPoly(t, "PartOfDegree of "+why, y, code, impl.ErrInvalid)
	}
}

func TestCoefficientAt(t *testing.T) {
	x := parsed(t, 5, 2, "3+2x+1x2+4xy+2y12")
	good := []struct {
		exps []int64
		want int64
	}{
		{[]int64{0, 0}, 3}, {[]int64{1, 0}, 2}, {[]int64{0, 1}, 0}, {[]int64{2, 0}, 1}, {[]int64{1, 1}, 4},
		{[]int64{0, 12}, 2}, {[]int64{12, 0}, 0}, {[]int64{6, 6}, 0},
	}
	for _, c := range good {
		n, code := impl.CoefficientAt(x, c.exps)
		wantNumber(t, fmt.Sprintf("CoefficientAt %v", c.exps), n, code, c.want, impl.ErrNone)
	}
	n, code := impl.CoefficientAt(built(5, 2), []int64{0, 0})
	wantNumber(t, "CoefficientAt of 0", n, code, 0, impl.ErrNone)
	n, code = impl.CoefficientAt(parsed(t, 7, 3, "1x+6z"), []int64{0, 0, 1})
	wantNumber(t, "CoefficientAt z", n, code, 6, impl.ErrNone)
	for _, exps := range [][]int64{
		nil, {1}, {1, 1, 0}, {0, 0, 0}, {-1, 1}, {1, -1}, {13, 0}, {7, 6}, {256, 0}, {257, 1}, {256, 256}, {0, 268},
		{math.MaxInt64, math.MaxInt64}, {math.MaxInt64, 1}, {math.MinInt64, math.MinInt64}, {1 << 32, 0}, {13, -1},
	} {
		n, code := impl.CoefficientAt(x, exps)
		wantNumber(t, fmt.Sprintf("CoefficientAt %v", exps), n, code, 0, impl.ErrRange)
	}
	n, code = impl.CoefficientAt(parsed(t, 5, 3, "1+1x+1z12"), []int64{math.MaxInt64, math.MaxInt64, 2})
	wantNumber(t, "CoefficientAt with an overflow", n, code, 0, impl.ErrRange)
	for why, x := range badPolys() {
		n, code := impl.CoefficientAt(x, []int64{-1})
		wantNumber(t, "CoefficientAt of "+why, n, code, 0, impl.ErrInvalid)
	}
}

func TestValueAt(t *testing.T) {
	good := []struct {
		p, d  int64
		x     string
		point []int64
		want  int64
	}{
		{5, 2, "3+2x+1x2+4xy", []int64{2, 3}, 0},
		{5, 2, "3+2x+1x2+4xy", []int64{0, 0}, 3},
		{5, 2, "0", []int64{4, 4}, 0},
		{13, 1, "12x12", []int64{12}, 12},
		{13, 1, "1x11", []int64{2}, 7},
		{7, 3, "1x+2y+3z", []int64{1, 1, 1}, 6},
		{7, 3, "1x+2y+3z", []int64{0, 0, 6}, 4},
		{2, 1, "1+1x12", []int64{1}, 0},
		{2, 1, "1+1x12", []int64{0}, 1},
		{11, 3, "10x4y4z4", []int64{10, 10, 10}, 10},
	}
	for _, c := range good {
		n, code := impl.ValueAt(parsed(t, c.p, c.d, c.x), c.point)
		wantNumber(t, fmt.Sprintf("ValueAt(%v)", c), n, code, c.want, impl.ErrNone)
	}
	x := parsed(t, 5, 2, "1x")
	for _, point := range [][]int64{nil, {1}, {1, 1, 1}, {-1, 0}, {0, -1}, {5, 0}, {0, 5}, {math.MaxInt64, 0}, {0, math.MinInt64}} {
		n, code := impl.ValueAt(x, point)
		wantNumber(t, fmt.Sprintf("ValueAt %v", point), n, code, 0, impl.ErrRange)
		n, code = impl.ValueAt(built(5, 2), point)
		wantNumber(t, fmt.Sprintf("ValueAt %v of 0", point), n, code, 0, impl.ErrRange)
	}
	for why, x := range badPolys() {
		n, code := impl.ValueAt(x, []int64{-1})
		wantNumber(t, "ValueAt of "+why, n, code, 0, impl.ErrInvalid)
	}
}

func TestDerivativeOf(t *testing.T) {
	good := []struct {
		p, d int64
		x    string
		i    int64
		want string
	}{
		{5, 2, "3+2x+1x2+4xy", 0, "2+2x+4y"},
		{5, 2, "3+2x+1x2+4xy", 1, "4x"},
		{5, 2, "1x5+1y5", 0, "0"},
		{5, 2, "1y5+1x6", 0, "1x5"},
		{2, 1, "1+1x+1x2+1x3", 0, "1+1x2"},
		{3, 3, "2z+1xyz+1z12", 2, "2+1xy"},
		{13, 1, "1x12", 0, "12x11"},
		{7, 3, "4", 1, "0"},
		{7, 3, "0", 2, "0"},
		{11, 3, "10x4y4z4", 1, "7x4y3z4"},
	}
	for _, c := range good {
		x, code := impl.DerivativeOf(parsed(t, c.p, c.d, c.x), c.i)
		wantPoly(t, fmt.Sprintf("DerivativeOf(%v)", c), x, code, parsed(t, c.p, c.d, c.want))
	}
	for d := int64(1); d <= 3; d++ {
		for _, i := range []int64{-1, d, d + 1, 3, math.MinInt64, math.MaxInt64} {
			x, code := impl.DerivativeOf(parsed(t, 5, d, "1x"), i)
			wantNoPoly(t, fmt.Sprintf("DerivativeOf in the letter %d of %d", i, d), x, code, impl.ErrRange)
		}
	}
	for why, x := range badPolys() {
		y, code := impl.DerivativeOf(x, -1)
		wantNoPoly(t, "DerivativeOf of "+why, y, code, impl.ErrInvalid)
	}
}

// parsedList returns polynomials in d letters with texts.
func parsedList(t *testing.T, p int64, d int64, texts []string) []impl.Poly {
	t.Helper()
	var list []impl.Poly
	for _, text := range texts {
		list = append(list, parsed(t, p, d, text))
	}
	return list
}

func TestSubstitutePoly(t *testing.T) {
	good := []struct {
		p, d int64
		x    string
		into int64
		list []string
		want string
	}{
		{5, 2, "1xy", 1, []string{"1+1x", "4+1x"}, "4+1x2"},
		{5, 2, "1xy", 3, []string{"1z", "1x"}, "1xz"},
		{5, 3, "1x+2y+3z", 1, []string{"1x", "1x", "1x"}, "1x"},
		{5, 1, "1+2x+3x2", 3, []string{"1y+1z"}, "1+2y+2z+3y2+1yz+3z2"},
		{5, 2, "3", 2, []string{"1x12", "1y12"}, "3"},
		{5, 2, "0", 3, []string{"1x12", "1y12"}, "0"},
		{5, 2, "1x", 2, []string{"1x", "1y12"}, "1x"},
		{5, 1, "2+1x12", 1, []string{"0"}, "2"},
		{5, 2, "1x6y6", 1, []string{"0", "1x2"}, "0"},
		{5, 2, "1+1y3", 1, []string{"0", "1x4"}, "1+1x12"},
		{5, 2, "1x+4y", 2, []string{"1x12", "1x12"}, "0"},
		{2, 2, "1x12", 2, []string{"1x+1y", "1"}, "1x12+1x8y4+1x4y8+1y12"},
		{7, 1, "1x12", 1, []string{"3"}, "1"},
		{13, 3, "1x4y4z4", 3, []string{"12y", "12z", "1x"}, "1x4y4z4"},
		{5, 2, "1y+1x2", 2, []string{"1x6", "1y12"}, "1x12+1y12"},
	}
	for _, c := range good {
		y, code := impl.SubstitutePoly(parsed(t, c.p, c.d, c.x), parsedList(t, c.p, c.into, c.list))
		wantPoly(t, fmt.Sprintf("SubstitutePoly(%v)", c), y, code, parsed(t, c.p, c.into, c.want))
	}
	limits := []struct {
		x    string
		list []string
	}{
		{"1x2", []string{"1x7", "1x"}},
		{"1xy", []string{"1x6", "1x7"}},
		{"1x2+4xy", []string{"1x7", "1x7"}},
		{"1xy2", []string{"0", "1x7"}},
		{"1x2y2", []string{"0", "1x7"}},
		{"1x+1y2", []string{"1x", "1x7"}},
		{"1+1x12", []string{"1x2", "1"}},
		{"1x12", []string{"1x12", "1"}},
	}
	for _, c := range limits {
		y, code := impl.SubstitutePoly(parsed(t, 5, 2, c.x), parsedList(t, 5, 1, c.list))
		wantNoPoly(t, fmt.Sprintf("SubstitutePoly(%v)", c), y, code, impl.ErrLimit)
	}
}

func TestSubstitutePolyErrors(t *testing.T) {
	x := parsed(t, 5, 2, "1x12")
	high := parsed(t, 5, 1, "1x12")
	lists := [][]impl.Poly{
		nil,
		{high},
		{high, high, high},
		{high, parsed(t, 5, 2, "1x12")},
		{parsed(t, 5, 3, "1x"), parsed(t, 5, 2, "1x")},
		{high, parsed(t, 7, 1, "1x12")},
		{parsed(t, 7, 1, "1x12"), high},
		{parsed(t, 7, 1, "1x"), parsed(t, 7, 1, "1x")},
		{parsed(t, 7, 2, "0"), parsed(t, 7, 2, "0")},
	}
	for _, list := range lists {
		y, code := impl.SubstitutePoly(x, list)
		wantNoPoly(t, fmt.Sprintf("SubstitutePoly of %v", list), y, code, impl.ErrRange)
		y, code = impl.SubstitutePoly(built(5, 2), list)
		wantNoPoly(t, fmt.Sprintf("SubstitutePoly of %v in 0", list), y, code, impl.ErrRange)
	}
	for why, y := range badPolys() {
		for _, list := range [][]impl.Poly{{y}, {high, y}, {y, high}, {high, high, y}, {parsed(t, 7, 2, "0"), y}} {
			z, code := impl.SubstitutePoly(x, list)
			wantNoPoly(t, "SubstitutePoly of "+why, z, code, impl.ErrInvalid)
		}
		for _, list := range [][]impl.Poly{nil, {high}, {high, high}} {
			z, code := impl.SubstitutePoly(y, list)
			wantNoPoly(t, "SubstitutePoly in "+why, z, code, impl.ErrInvalid)
		}
	}
}

func TestMonomialsOf(t *testing.T) {
	for d := int64(1); d <= 3; d++ {
		for n := int64(0); n <= 12; n++ {
			list, code := impl.MonomialsOf(d, n)
			if want := monomials(d, n); code != impl.ErrNone || fmt.Sprint(list) != fmt.Sprint(want) {
				t.Errorf("MonomialsOf(%d, %d) = %v, %d, want %v", d, n, list, code, want)
			}
		}
	}
	list, _ := impl.MonomialsOf(2, 2)
	if fmt.Sprint(list) != "[[2 0 0] [1 1 0] [0 2 0]]" {
		t.Errorf("MonomialsOf(2, 2) = %v", list)
	}
	bad := [][2]int64{{0, 2}, {-1, 2}, {4, 2}, {2, -1}, {2, 13}, {0, 13}, {math.MaxInt64, 1}, {1, math.MaxInt64}, {math.MinInt64, math.MinInt64}}
	for _, c := range bad {
		if list, code := impl.MonomialsOf(c[0], c[1]); len(list) != 0 || code != impl.ErrRange {
			t.Errorf("MonomialsOf(%d, %d) = %v, %d", c[0], c[1], list, code)
		}
	}
}

func TestPolyText(t *testing.T) {
	good := []struct {
		x    impl.Poly
		want string
	}{
		{built(5, 2), "0"},
		{built(5, 2, term(1)), "1"},
		{built(5, 2, term(3), term(2, 1), term(1, 2), term(4, 1, 1)), "3+2x+1x2+4xy"},
		{built(13, 3, term(12), term(10, 1, 1, 1), term(11, 10, 1, 1)), "12+10xyz+11x10yz"},
		{built(2, 3, term(1, 0, 0, 1), term(1, 0, 0, 12)), "1z+1z12"},
		{built(7, 3, term(6, 0, 11, 1)), "6y11z"},
		{built(7, 3, term(6, 9, 1, 2)), "6x9yz2"},
	}
	for _, c := range good {
		if text, code := impl.PolyText(c.x); text != c.want || code != impl.ErrNone {
			t.Errorf("PolyText(%v) = %q, %d, want %q", c.x, text, code, c.want)
		}
	}
	for why, x := range badPolys() {
		if text, code := impl.PolyText(x); text != "" || code != impl.ErrInvalid {
			t.Errorf("PolyText of %s = %q, %d", why, text, code)
		}
	}
}

func TestParsePoly(t *testing.T) {
	good := []struct {
		p, d int64
		text string
		want impl.Poly
	}{
		{5, 2, "0", built(5, 2)},
		{5, 1, "4", built(5, 1, term(4))},
		{5, 2, "3+2x+1x2+4xy", built(5, 2, term(3), term(2, 1), term(1, 2), term(4, 1, 1))},
		{13, 3, "12+10xyz+11x10yz", built(13, 3, term(12), term(10, 1, 1, 1), term(11, 10, 1, 1))},
		{2, 3, "1z+1z12", built(2, 3, term(1, 0, 0, 1), term(1, 0, 0, 12))},
		{11, 1, "10x12", built(11, 1, term(10, 12))},
		{3, 3, "2x2y2z2", built(3, 3, term(2, 2, 2, 2))},
		{3, 3, "2xz", built(3, 3, term(2, 1, 0, 1))},
	}
	for _, c := range good {
		x, code := impl.ParsePoly(c.p, c.d, c.text)
		wantPoly(t, fmt.Sprintf("ParsePoly(%d, %d, %q)", c.p, c.d, c.text), x, code, c.want)
	}
	bad := []string{
		"", " ", "+", "5", "5x", "6x", "10", "2y+1x", "1x+1x", "1x+2x", "1y+1", "1x2+1x", "1xy+1x2", "1x1", "1x0", "1y1", "01x", "1x02",
		"1x2y01", "1x+", "+1x", "1x++1y", "1z", "1xz", "1x13", "1x6y7", "1x7y6", "1yx", "0+1x", "0x", "00", "1+0", "1x+0", "0+0",
		"1xx", "1x2x2", "1x2x", "x", "y", "x2", "1+x", "-1x", "+1", "1-1x", "1x-1y", "1 x", "1x ", " 1x", "1x + 1y", "1x\n", "1X",
		"1*x", "1x^2", "1x2.", "1x256", "1x268", "1x258", "1x18446744073709551618", "18446744073709551617x", "4294967297", "256", "1x100",
		"1\u00e9", "\xff", "1x\x00", "1\u00b2", "1x\u0662", "\uff11", "1w", "1a", "1,1", "1x2+1x12y", "1x12y12",
	}
	for _, text := range bad {
		x, code := impl.ParsePoly(5, 2, text)
		wantNoPoly(t, fmt.Sprintf("ParsePoly(%q)", text), x, code, impl.ErrSyntax)
	}
	for _, text := range []string{"1y", "1xy", "1x+1y"} {
		x, code := impl.ParsePoly(5, 1, text)
		wantNoPoly(t, fmt.Sprintf("ParsePoly(%q) in one letter", text), x, code, impl.ErrSyntax)
	}
	for _, text := range []string{"1z+1y", "1xz+1xy", "1y2+1xz", "1yz+1y2", "1x5y4z4", "1zx", "1zy", "1xyzz", "13x", "1w"} {
		x, code := impl.ParsePoly(13, 3, text)
		wantNoPoly(t, fmt.Sprintf("ParsePoly(%q) in three letters", text), x, code, impl.ErrSyntax)
	}
	for _, long := range []string{strings.Repeat("1", 100000), strings.Repeat("+", 100000), strings.Repeat("1x+", 100000), "1x" + strings.Repeat("0", 100000)} {
		x, code := impl.ParsePoly(5, 2, long)
		wantNoPoly(t, "ParsePoly of a long text", x, code, impl.ErrSyntax)
	}
}

func TestParsePolyRange(t *testing.T) {
	for _, text := range []string{"0", "1", "1x", "", "x"} {
		for _, p := range noPrimes {
			x, code := impl.ParsePoly(p, 2, text)
			wantNoPoly(t, fmt.Sprintf("ParsePoly(%d, 2, %q)", p, text), x, code, impl.ErrRange)
		}
		for _, d := range []int64{0, -1, 4, math.MinInt64, math.MaxInt64} {
			x, code := impl.ParsePoly(5, d, text)
			wantNoPoly(t, fmt.Sprintf("ParsePoly(5, %d, %q)", d, text), x, code, impl.ErrRange)
		}
	}
}

// sameRows compares lists of rows; nil ones are empty ones.
func sameRows(a [][]int64, b [][]int64) bool {
	return len(a) == len(b) && fmt.Sprint(a) == fmt.Sprint(b)
}

// row repeats a number.
func row(n int, number int64) []int64 {
	list := make([]int64, n)
	for i := range list {
		list[i] = number
	}
	return list
}

func TestReduceRows(t *testing.T) {
	good := []struct {
		p, n       int64
		rows, want [][]int64
	}{
		{5, 2, [][]int64{{2, 4}, {1, 2}}, [][]int64{{1, 2}}},
		{5, 2, [][]int64{{0, 3}, {2, 0}}, [][]int64{{1, 0}, {0, 1}}},
		{5, 3, [][]int64{{0, 0, 2}, {0, 3, 1}}, [][]int64{{0, 1, 0}, {0, 0, 1}}},
		{7, 3, [][]int64{{1, 2, 3}, {4, 5, 6}}, [][]int64{{1, 0, 6}, {0, 1, 2}}},
		{2, 4, [][]int64{{1, 1, 0, 0}, {0, 1, 1, 0}, {1, 0, 1, 0}}, [][]int64{{1, 0, 1, 0}, {0, 1, 1, 0}}},
		{13, 3, [][]int64{{0, 12, 1}}, [][]int64{{0, 1, 12}}},
		{3, 3, [][]int64{{0, 0, 0}, {0, 0, 0}}, nil},
		{3, 3, nil, nil},
		{3, 0, nil, nil},
		{3, 0, [][]int64{{}, nil}, nil},
		{3, 1, [][]int64{{2}, {1}, {0}}, [][]int64{{1}}},
		{11, 3, [][]int64{{1, 1, 10}, {1, 1, 0}, {0, 0, 0}}, [][]int64{{1, 1, 0}, {0, 0, 1}}},
	}
	for _, c := range good {
		rows, code := impl.ReduceRows(c.p, c.n, c.rows)
		if code != impl.ErrNone || !sameRows(rows, c.want) {
			t.Errorf("ReduceRows(%v) = %v, %d", c, rows, code)
		}
	}
	rows, code := impl.ReduceRows(2, 100, [][]int64{row(100, 1)})
	if code != impl.ErrNone || !sameRows(rows, [][]int64{row(100, 1)}) {
		t.Errorf("ReduceRows of 100 numbers = %v, %d", rows, code)
	}
}

func TestReduceRowsErrors(t *testing.T) {
	bad := []struct {
		p, n int64
		rows [][]int64
	}{
		{5, -1, nil},
		{5, 101, nil},
		{5, 101, [][]int64{row(101, 1)}},
		{5, math.MaxInt64, nil},
		{5, math.MinInt64, nil},
		{5, 2, [][]int64{{1}}},
		{5, 2, [][]int64{{1, 1, 0}}},
		{5, 2, [][]int64{{1, 1}, nil}},
		{5, 0, [][]int64{{0}}},
		{5, 2, [][]int64{{1, 5}}},
		{5, 2, [][]int64{{1, 1}, {-1, 0}}},
		{5, 2, [][]int64{{1, math.MaxInt64}}},
		{5, 2, [][]int64{{1, math.MinInt64}}},
		{5, 0, make([][]int64, 101)},
	}
	for _, c := range bad {
		if rows, code := impl.ReduceRows(c.p, c.n, c.rows); len(rows) != 0 || code != impl.ErrRange {
			t.Errorf("ReduceRows(%v) = %v, %d", c, rows, code)
		}
	}
	for _, p := range noPrimes {
		if rows, code := impl.ReduceRows(p, 1, [][]int64{{0}}); len(rows) != 0 || code != impl.ErrRange {
			t.Errorf("ReduceRows for %d = %v, %d", p, rows, code)
		}
		if rows, code := impl.ReduceRows(p, 0, nil); len(rows) != 0 || code != impl.ErrRange {
			t.Errorf("ReduceRows for %d = %v, %d", p, rows, code)
		}
	}
}

// TestReduceRowsLimits reduces as many rows, as wide, as may be: triangles of full rank.
func TestReduceRowsLimits(t *testing.T) {
	for _, p := range primes {
		var rows, unit [][]int64
		for i := range 100 {
			rows = append(rows, append(row(99-i, 0), row(i+1, p-1)...))
			unit = append(unit, row(100, 0))
			unit[i][i] = 1
		}
		if got, code := impl.ReduceRows(p, 100, rows); code != impl.ErrNone || !sameRows(got, unit) {
			t.Errorf("ReduceRows of a triangle for %d: %d rows, %d", p, len(got), code)
		}
		if got, code := impl.ReduceRows(p, 100, append(rows, row(100, 0))); code != impl.ErrRange || len(got) != 0 {
			t.Errorf("ReduceRows of 101 rows for %d: %d rows, %d", p, len(got), code)
		}
	}
}

// spanned lists, as texts, all sums of multiples of rows.
func spanned(p int64, n int64, rows [][]int64) map[string]bool {
	sums := map[string]bool{}
	for _, k := range points(p, int64(len(rows))) {
		sum := make([]int64, n)
		for i, row := range rows {
			for j, a := range row {
				sum[j] = (sum[j] + k[i]*a) % p
			}
		}
		sums[fmt.Sprint(sum)] = true
	}
	return sums
}

// isReduced checks the form of a reduced list.
func isReduced(rows [][]int64) bool {
	before := -1
	for i, row := range rows {
		lead := 0
		for lead < len(row) && row[lead] == 0 {
			lead++
		}
		if lead == len(row) || row[lead] != 1 || lead <= before {
			return false
		}
		for j := range rows {
			if j != i && rows[j][lead] != 0 {
				return false
			}
		}
		before = lead
	}
	return true
}

// TestReduceRowsSpaces compares the spaces of random rows and of their reduced lists.
func TestReduceRowsSpaces(t *testing.T) {
	r := rand.New(rand.NewSource(101))
	for range 300 {
		p := primes[r.Intn(len(primes))]
		n := r.Int63n(5)
		rows := make([][]int64, r.Intn(4))
		for i := range rows {
			for range n {
				rows[i] = append(rows[i], r.Int63n(p)*r.Int63n(2))
			}
		}
		got, code := impl.ReduceRows(p, n, rows)
		want := spanned(p, n, rows)
		have := spanned(p, n, got)
		if code != impl.ErrNone || !isReduced(got) || fmt.Sprint(have) != fmt.Sprint(want) {
			t.Fatalf("ReduceRows(%d, %d, %v) = %v, %d", p, n, rows, got, code)
		}
		again, code := impl.ReduceRows(p, n, got)
		if code != impl.ErrNone || !sameRows(again, got) {
			t.Fatalf("ReduceRows(%d, %d, %v) again = %v, %d", p, n, got, again, code)
		}
	}
}
