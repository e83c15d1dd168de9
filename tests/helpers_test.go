package tests

import (
	"math/rand"
	"slices"
	"testing"

	"loop.example/g01285/impl"
)

// primes are those of the document.
var primes = []int64{2, 3, 5, 7, 11, 13}

// parsed returns the polynomial with a text.
func parsed(t *testing.T, p int64, d int64, text string) impl.Poly {
	t.Helper()
	x, code := impl.ParsePoly(p, d, text)
	if code != impl.ErrNone {
		t.Fatalf("ParsePoly(%d, %d, %q): code %d", p, d, text, code)
	}
	return x
}

// built returns a polynomial that is written down by its Terms, checked or not.
func built(p int64, d int64, terms ...impl.Term) impl.Poly {
	return impl.Poly{Prime: p, Vars: d, Terms: terms}
}

// term returns a Term with a value and exponents.
func term(value int64, exps ...byte) impl.Term {
	s := impl.Term{Value: value}
	copy(s.Exps[:], exps)
	return s
}

// samePoly compares polynomials; a nil list of Terms is an empty one.
func samePoly(x impl.Poly, y impl.Poly) bool {
	return x.Prime == y.Prime && x.Vars == y.Vars && slices.Equal(x.Terms, y.Terms)
}

// isZeroPoly reports whether x is the zero value, as beside an error.
func isZeroPoly(x impl.Poly) bool {
	return samePoly(x, impl.Poly{})
}

// wantPoly checks a polynomial with ErrNone.
func wantPoly(t *testing.T, what string, x impl.Poly, code int64, want impl.Poly) {
	t.Helper()
	if code != impl.ErrNone || !samePoly(x, want) {
		t.Errorf("%s = %v, %d, want %v, 0", what, x, code, want)
	}
}

// wantNoPoly checks an error and the zero value beside it.
func wantNoPoly(t *testing.T, what string, x impl.Poly, code int64, want int64) {
	t.Helper()
	if code != want || !isZeroPoly(x) {
		t.Errorf("%s = %v, %d, want the zero value, %d", what, x, code, want)
	}
}

// wantNumber checks a number and a code.
func wantNumber(t *testing.T, what string, n int64, code int64, want int64, wantCode int64) {
	t.Helper()
	if n != want || code != wantCode {
		t.Errorf("%s = %d, %d, want %d, %d", what, n, code, want, wantCode)
	}
}

// badPolys are no polynomials, each for one reason.
func badPolys() map[string]impl.Poly {
	return map[string]impl.Poly{
		"zero value":             {},
		"prime 0":                built(0, 2),
		"prime 1":                built(1, 2),
		"prime -2":               built(-2, 2),
		"prime 4":                built(4, 2, term(1, 1)),
		"prime 6":                built(6, 2),
		"prime 9":                built(9, 2),
		"prime 12":               built(12, 1),
		"prime 17":               built(17, 2, term(1, 1)),
		"no letters":             built(5, 0),
		"letters -1":             built(5, -1),
		"four letters":           built(5, 4),
		"value 0":                built(5, 2, term(0, 1)),
		"value p":                built(5, 2, term(5, 1)),
		"value -1":               built(5, 2, term(-1, 1)),
		"value p and more":       built(5, 2, term(1), term(6, 1)),
		"letter not there":       built(5, 1, term(1, 0, 1)),
		"third letter not there": built(5, 2, term(1, 0, 0, 1)),
		"degree 13":              built(5, 2, term(1, 13)),
		"degree 13 by two":       built(5, 2, term(1, 6, 7)),
		"degree 256":             built(5, 2, term(1, 128, 128)),
		"degree 268":             built(5, 2, term(1, 134, 134)),
		"degree 513":             built(5, 3, term(1, 255, 255, 3)),
		"same twice":             built(5, 2, term(1, 1), term(2, 1)),
		"degrees fall":           built(5, 2, term(1, 2), term(1, 1)),
		"x behind y":             built(5, 2, term(1, 0, 1), term(1, 1)),
		"z before y":             built(5, 3, term(1, 0, 0, 1), term(1, 0, 1)),
		"xz before xy":           built(5, 3, term(1, 1, 0, 1), term(1, 1, 1)),
		"y2 before xz":           built(5, 3, term(1, 0, 2), term(1, 1, 0, 1)),
		"1 behind x":             built(5, 2, term(1, 1), term(1)),
		"bad at the end":         built(5, 2, term(1), term(1, 1), term(0, 0, 1)),
	}
}

// withSpare returns a copy of a list with marks in the spare capacity behind it.
func withSpare[T any](list []T, mark T) []T {
	full := slices.Clone(list)
	full = append(full, mark, mark, mark)
	return full[:len(list):len(full)]
}

// whole returns a list with the spare capacity behind it.
func whole[T any](list []T) []T {
	return list[:cap(list)]
}

// overwrite puts a mark everywhere in a list and in the spare capacity behind it.
func overwrite[T any](list []T, mark T) {
	for i := range whole(list) {
		whole(list)[i] = mark
	}
}

// randomPoly returns a polynomial of at most a degree, about half of the coefficients of which are 0.
func randomPoly(r *rand.Rand, p int64, d int64, most int64) impl.Poly {
	x := impl.Poly{Prime: p, Vars: d}
	for n := int64(0); n <= most; n++ {
		for _, e := range monomials(d, n) {
			if value := r.Int63n(p); value > 0 && r.Intn(2) == 0 {
				x.Terms = append(x.Terms, impl.Term{Exps: e, Value: value})
			}
		}
	}
	return x
}

// monomials lists the monomials of a degree in order, apart from the program.
func monomials(d int64, n int64) []impl.Exps {
	var list []impl.Exps
	for a := n; a >= 0; a-- {
		for b := n - a; b >= 0; b-- {
			c := n - a - b
			if d == 1 && b+c > 0 || d == 2 && c > 0 {
				continue
			}
			list = append(list, impl.Exps{byte(a), byte(b), byte(c)})
		}
	}
	return list
}

// table is a polynomial as the tests reckon with it: coefficients by exponents.
type table map[impl.Exps]int64

// tableOf returns the coefficients of a polynomial.
func tableOf(x impl.Poly) table {
	m := table{}
	for _, s := range x.Terms {
		m[s.Exps] = s.Value
	}
	return m
}

// plus adds k times another table, modulo p.
func (m table) plus(p int64, k int64, other table) table {
	sum := table{}
	for e, v := range m {
		sum[e] = v
	}
	for e, v := range other {
		sum[e] = (sum[e] + k*v) % p
	}
	return sum
}

// times multiplies by another table, modulo p.
func (m table) times(p int64, other table) table {
	product := table{}
	for e, v := range m {
		for f, w := range other {
			g := impl.Exps{e[0] + f[0], e[1] + f[1], e[2] + f[2]}
			product[g] = (product[g] + v*w) % p
		}
	}
	return product
}

// poly returns the polynomial with these coefficients.
func (m table) poly(p int64, d int64) impl.Poly {
	x := impl.Poly{Prime: p, Vars: d}
	for n := int64(0); n <= impl.MaxDegree; n++ {
		for _, e := range monomials(d, n) {
			if m[e] != 0 {
				x.Terms = append(x.Terms, impl.Term{Exps: e, Value: m[e]})
			}
		}
	}
	return x
}

// points lists all points of d numbers modulo p.
func points(p int64, d int64) [][]int64 {
	list := [][]int64{nil}
	for range d {
		var longer [][]int64
		for _, point := range list {
			for a := range p {
				longer = append(longer, append(slices.Clone(point), a))
			}
		}
		list = longer
	}
	return list
}

// wantSameAtOnce asks from several goroutines at the same time, and wants the answer that there is before.
func wantSameAtOnce(t *testing.T, ask func() string) {
	t.Helper()
	want := ask()
	answers := make(chan string)
	for range 16 {
		go func() { answers <- ask() }()
	}
	for range 16 {
		if got := <-answers; got != want {
			t.Errorf("%s instead of %s", got, want)
		}
	}
}
