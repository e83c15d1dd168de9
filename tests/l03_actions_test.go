package tests

import (
	"fmt"
	"math"
	"math/rand"
	"slices"
	"strings"
	"testing"

	"loop.example/g01285/impl"
)

func TestActionLimit(t *testing.T) {
	if impl.MaxOrbit != 48 {
		t.Errorf("limit %d", impl.MaxOrbit)
	}
}

func TestLeadPoly(t *testing.T) {
	turn := impl.Matrix{{0, 1, 0}, {0, 0, 1}, {1, 0, 0}}
	shear := impl.Matrix{{1, 1}, {0, 1}}
	good := []struct {
		p, d       int64
		m          impl.Matrix
		text, want string
	}{
		{5, 2, impl.Matrix{{1, 2}, {0, 1}}, "1x+1y2", "1x+4x2+4xy+1y2"},
		{5, 2, impl.Matrix{{1, 0}, {2, 1}}, "1x+1y2", "1x+2y+1y2"},
		{13, 1, impl.Matrix{{5}}, "1+1x+1x2", "1+5x+12x2"},
		{13, 1, impl.Matrix{{2}}, "1x12", "1x12"},
		{13, 1, impl.Matrix{{2}}, "1x11", "7x11"},
		{7, 3, turn, "1x+2y2+3xyz", "1z+2x2+3xyz"},
		{7, 3, turn, "1xy2", "1x2z"},
		{2, 2, shear, "1x2+1xy", "1xy"},
		{3, 2, shear, "1y12", "1x12+1x9y3+1x3y9+1y12"},
		{5, 2, shear, "0", "0"},
		{5, 2, shear, "3", "3"},
		{11, 2, impl.Matrix{{0, 10}, {10, 0}}, "1+1x+2y+3x2y", "1+9x+10y+8xy2"},
		{13, 3, impl.Matrix{{1, 1, 1}, {0, 1, 1}, {0, 0, 1}}, "1x+1y+1z", "3x+2y+1z"},
	}
	for _, c := range good {
		f, code := impl.LeadPoly(c.m, parsed(t, c.p, c.d, c.text))
		wantPoly(t, fmt.Sprintf("LeadPoly(%v)", c), f, code, parsed(t, c.p, c.d, c.want))
	}
}

// TestLeadPolyAgrees leads random polynomials of all degrees here and there.
func TestLeadPolyAgrees(t *testing.T) {
	r := rand.New(rand.NewSource(10))
	for _, p := range primes {
		for d := int64(1); d <= 3; d++ {
			for most := int64(0); most <= 5; most++ {
				for _, f := range []impl.Poly{randomPoly(r, p, d, most), dense(r, p, d, most)} {
					m := randomMatrix(r, p, d)
					there, code := impl.LeadPoly(m, f)
					wantPoly(t, fmt.Sprintf("LeadPoly(%v, %v)", m, f), there, code, turned(m, f))
				}
			}
			m, f := randomMatrix(r, p, d), built(p, d, term(1, 12))
			there, code := impl.LeadPoly(m, f)
			wantPoly(t, fmt.Sprintf("LeadPoly(%v, %v)", m, f), there, code, turned(m, f))
		}
	}
}

// TestLeadPolyByValues holds values at points against those at the points to which these are led,
// also for the greatest polynomials.
func TestLeadPolyByValues(t *testing.T) {
	r := rand.New(rand.NewSource(11))
	for _, p := range primes {
		for d := int64(1); d <= 3; d++ {
			m, f := randomMatrix(r, p, d), dense(r, p, d, impl.MaxDegree)
			there, code := impl.LeadPoly(m, f)
			if code != impl.ErrNone || !impl.IsPoly(there) || topDegree(there) != impl.MaxDegree {
				t.Fatalf("LeadPoly(%v, %v) = %v, %d", m, f, there, code)
			}
			for _, point := range somePoints(p, d) {
				if a, b := value(t, there, point), value(t, f, led(p, d, m, point)); a != b {
					t.Fatalf("LeadPoly(%v, %v): %d at %v, want %d", m, f, a, point, b)
				}
			}
			back, _ := impl.InverseMatrix(p, d, m)
			again, code := impl.LeadPoly(back, there)
			wantPoly(t, "LeadPoly back", again, code, f)
		}
	}
}

func TestLeadPolyErrors(t *testing.T) {
	for _, c := range noMatrices() {
		f, want := built(c.p, c.n, term(1, 1)), int64(impl.ErrRange)
		if !impl.IsPoly(f) {
			want = impl.ErrInvalid
		}
		there, code := impl.LeadPoly(c.g, f)
		wantNoPoly(t, "LeadPoly by "+c.why, there, code, want)
		there, code = impl.LeadPoly(c.g, built(c.p, c.n))
		wantNoPoly(t, "LeadPoly of 0 by "+c.why, there, code, want)
	}
	for why, f := range badPolys() {
		for _, m := range []impl.Matrix{unitOf(2), unitOf(1), {}, {{9, 9, 9}}} {
			there, code := impl.LeadPoly(m, f)
			wantNoPoly(t, "LeadPoly of "+why, there, code, impl.ErrInvalid)
		}
	}
}

// splitPolys returns the polynomials with texts that blanks part.
func splitPolys(t *testing.T, p int64, d int64, texts string) []impl.Poly {
	t.Helper()
	var list []impl.Poly
	for _, text := range strings.Fields(texts) {
		list = append(list, parsed(t, p, d, text))
	}
	return list
}

func TestOrbitOfPoly(t *testing.T) {
	good := []struct {
		g          impl.Group
		text, want string
	}{
		{named(t, "swap", 3), "1x", "1y 1x"},
		{named(t, "swap", 5), "1x+1y", "1x+1y"},
		{named(t, "swap", 5), "0", "0"},
		{named(t, "swap", 5), "4", "4"},
		{named(t, "swap", 2), "1+1x+1y2", "1+1y+1x2 1+1x+1y2"},
		{named(t, "point", 2), "1+1x", "1+1x"},
		{named(t, "sign", 13), "1x", "1x 12x"},
		{named(t, "sign", 13), "1+2x+3x2", "1+2x+3x2 1+11x+3x2"},
		{named(t, "sign", 2), "1x", "1x"},
		{named(t, "minus", 7), "1x+2y+3xy", "1x+2y+3xy 6x+5y+3xy"},
		{named(t, "square", 3), "1x", "1y 2y 1x 2x"},
		{named(t, "square", 3), "1x2", "1y2 1x2"},
		{named(t, "turn", 5), "1x", "1y 1z 1x"},
		{named(t, "turn", 5), "1xy2", "1yz2 1x2z 1xy2"},
		{named(t, "triangle", 7), "1x", "1y 1x 6x+6y"},
		{shears(3), "1x", "1x"},
		{shears(3), "1y", "1y 1x+1y 2x+1y"},
		{powersOf(13, 5), "1x", "1x 5x 8x 12x"},
		{powersOf(13, 5), "1x12", "1x12"},
	}
	for _, c := range good {
		p, d := c.g.Prime, c.g.Size
		list, code := impl.OrbitOfPoly(c.g, parsed(t, p, d, c.text))
		wantPolys(t, fmt.Sprintf("OrbitOfPoly(%v, %s)", c.g, c.text), list, code, splitPolys(t, p, d, c.want), impl.ErrNone)
	}
}

// TestGreatestOrbits makes orbits of MaxOrbit polynomials, of degree 12 too.
func TestGreatestOrbits(t *testing.T) {
	cube, powers := named(t, "cube", 11), groupWith(7, 2, closedList(7, 2, []impl.Matrix{cycle48}, impl.MaxOrder)...)
	cases := []struct {
		g    impl.Group
		text string
	}{
		{cube, "1x+2y+3z"}, {cube, "1+1x+2y+3z"}, {cube, "1x+2y+3z+1x11y"},
		{powers, "1x"}, {powers, "1+1x+2y"}, {powers, "1x+2y+1x11y"},
	}
	for _, c := range cases {
		f := parsed(t, c.g.Prime, c.g.Size, c.text)
		want := withoutDoubles(turnedByAll(c.g, f))
		list, code := impl.OrbitOfPoly(c.g, f)
		wantPolys(t, "OrbitOfPoly "+c.text, list, code, want, impl.ErrNone)
		if len(want) != impl.MaxOrbit {
			t.Errorf("%d polynomials in the orbit of %s", len(want), c.text)
		}
		unit := int64(slices.Index(c.g.Elements, unitOf(c.g.Size)))
		numbers, code := impl.StabiliserOfPoly(c.g, f)
		wantNumbers(t, "StabiliserOfPoly "+c.text, numbers, code, []int64{unit}, impl.ErrNone)
	}
}

func TestIsInvariant(t *testing.T) {
	cases := []struct {
		g    impl.Group
		text string
		want bool
	}{
		{named(t, "swap", 5), "1x+1y+3xy", true},
		{named(t, "swap", 5), "1x+2y+3xy", false},
		{named(t, "swap", 5), "1x+4y", false},
		{named(t, "swap", 2), "1x+1y", true},
		{named(t, "swap", 5), "0", true},
		{named(t, "swap", 5), "3", true},
		{named(t, "point", 13), "1+2x+3x12", true},
		{named(t, "sign", 13), "1+1x2+1x12", true},
		{named(t, "sign", 13), "1+1x2+1x11", false},
		{named(t, "sign", 2), "1+1x2+1x11", true},
		{named(t, "signs", 3), "1x2+2x2y4", true},
		{named(t, "signs", 3), "1xy", false},
		{named(t, "minus", 3), "1xy", true},
		{named(t, "square", 7), "1x2+1y2", true},
		{named(t, "square", 7), "1x2+6y2", false},
		{named(t, "triangle", 5), "1x2+4xy+1y2", false},
		{named(t, "triangle", 5), "1x2+1xy+1y2", true},
		{named(t, "turn", 5), "1x2y+1xz2+1y2z", true},
		{named(t, "symmetric", 5), "1x2y+1xz2+1y2z", false},
		{named(t, "symmetric", 5), "1x+1y+1z+2xyz", true},
		{named(t, "cube", 11), "1x4+1y4+1z4+1x2y2z2", true},
		{named(t, "cube", 11), "1xyz", false},
		{shears(3), "1x", true},
		{shears(3), "1y", false},
		{shears(3), "2x2y+1y3", true},
	}
	for _, c := range cases {
		yes, code := impl.IsInvariant(c.g, parsed(t, c.g.Prime, c.g.Size, c.text))
		if yes != c.want || code != impl.ErrNone {
			t.Errorf("IsInvariant(%v, %s) = %v, %d", c.g, c.text, yes, code)
		}
	}
}

func TestStabiliserOfPoly(t *testing.T) {
	good := []struct {
		g    impl.Group
		text string
		want []int64
	}{
		{named(t, "swap", 5), "1x", []int64{1}},
		{named(t, "swap", 5), "1x+1y", []int64{0, 1}},
		{named(t, "swap", 5), "0", []int64{0, 1}},
		{named(t, "swap", 5), "2", []int64{0, 1}},
		{named(t, "point", 2), "1x", []int64{0}},
		{named(t, "square", 3), "1x", []int64{4, 5}},
		{named(t, "square", 3), "1x2", []int64{4, 5, 6, 7}},
		{named(t, "square", 3), "1x2+1y2", []int64{0, 1, 2, 3, 4, 5, 6, 7}},
		{named(t, "square", 3), "1xy", []int64{0, 3, 4, 7}},
		{named(t, "square", 3), "1x+1y", []int64{0, 4}},
		{named(t, "square", 3), "1x+2x2y", []int64{4}},
		{named(t, "turn", 7), "1x", []int64{2}},
		{named(t, "symmetric", 7), "1z", []int64{3, 5}},
		{shears(3), "1y", []int64{0}},
		{shears(3), "1x2", []int64{0, 1, 2}},
	}
	for _, c := range good {
		numbers, code := impl.StabiliserOfPoly(c.g, parsed(t, c.g.Prime, c.g.Size, c.text))
		wantNumbers(t, fmt.Sprintf("StabiliserOfPoly(%v, %s)", c.g, c.text), numbers, code, c.want, impl.ErrNone)
	}
}

// oneForm is a call of a function that makes one polynomial of another one, with its result.
type oneForm struct {
	g          impl.Group
	text, want string
}

// checkForms checks calls of a function that makes one polynomial of another one.
func checkForms(t *testing.T, name string, call func(g impl.Group, f impl.Poly) (impl.Poly, int64), good []oneForm) {
	t.Helper()
	for _, c := range good {
		p, d := c.g.Prime, c.g.Size
		f, code := call(c.g, parsed(t, p, d, c.text))
		wantPoly(t, fmt.Sprintf("%s(%v, %s)", name, c.g, c.text), f, code, parsed(t, p, d, c.want))
	}
}

func TestOrbitSum(t *testing.T) {
	checkForms(t, "OrbitSum", impl.OrbitSum, []oneForm{
		{named(t, "swap", 5), "1x", "1x+1y"},
		{named(t, "swap", 5), "1x+1y", "1x+1y"},
		{named(t, "swap", 2), "1x+1y", "1x+1y"},
		{named(t, "swap", 5), "0", "0"},
		{named(t, "swap", 5), "3", "3"},
		{named(t, "point", 13), "1+12x12", "1+12x12"},
		{named(t, "signs", 5), "1x", "0"},
		{named(t, "signs", 5), "1x2", "1x2"},
		{named(t, "signs", 5), "1x+1x2", "2x2"},
		{named(t, "turn", 3), "1x+1y2", "1x+1y+1z+1x2+1y2+1z2"},
		{named(t, "symmetric", 11), "1x2y", "1x2y+1x2z+1xy2+1xz2+1y2z+1yz2"},
		{named(t, "cube", 5), "1x12", "1x12+1y12+1z12"},
		{shears(3), "1y", "0"},
		{shears(3), "1y2", "2x2"},
	})
}

func TestOrbitProduct(t *testing.T) {
	checkForms(t, "OrbitProduct", impl.OrbitProduct, []oneForm{
		{named(t, "swap", 5), "1x", "1xy"},
		{named(t, "swap", 5), "1x+2y", "2x2+2y2"},
		{named(t, "swap", 5), "1x+1y", "1x+1y"},
		{named(t, "swap", 5), "0", "0"},
		{named(t, "swap", 5), "3", "3"},
		{named(t, "cube", 13), "7", "7"},
		{named(t, "point", 13), "1+12x12", "1+12x12"},
		{named(t, "signs", 5), "1x2y10", "1x2y10"},
		{named(t, "turn", 3), "1+1x", "1+1x+1y+1z+1xy+1xz+1yz+1xyz"},
		{powersOf(13, 2), "1x", "12x12"},
		{powersOf(13, 4), "1x2", "1x6"},
		{shears(2), "1y6", "1x6y6+1x4y8+1x2y10+1y12"},
		{shears(5), "1y2", "1x8y2+3x4y6+1y10"},
		{shears(11), "1y", "10x10y+1y11"},
	})
	tooGreat := []struct {
		g    impl.Group
		text string
	}{
		{shears(13), "1y"},
		{shears(7), "1y2"},
		{shears(5), "1y3"},
		{shears(2), "1y7"},
		{named(t, "swap", 5), "1x7"},
		{named(t, "swap", 5), "1x12"},
		{named(t, "swap", 2), "1+1x7"},
		{named(t, "turn", 7), "1x5"},
		{named(t, "cube", 11), "1x+2y+3z"},
	}
	for _, c := range tooGreat {
		f, code := impl.OrbitProduct(c.g, parsed(t, c.g.Prime, c.g.Size, c.text))
		wantNoPoly(t, fmt.Sprintf("OrbitProduct(%v, %s)", c.g, c.text), f, code, impl.ErrLimit)
	}
}

// oneNumbered is a call of a function with a number, with the text of its result, or its error.
type oneNumbered struct {
	g    impl.Group
	text string
	k    int64
	want string
	code int64
}

// checkNumbered checks calls of a function with a number.
func checkNumbered(t *testing.T, name string, call func(g impl.Group, f impl.Poly, k int64) (impl.Poly, int64), cases []oneNumbered) {
	t.Helper()
	for _, c := range cases {
		p, d := c.g.Prime, c.g.Size
		what := fmt.Sprintf("%s(%v, %s, %d)", name, c.g, c.text, c.k)
		f, code := call(c.g, parsed(t, p, d, c.text), c.k)
		if c.code != impl.ErrNone {
			wantNoPoly(t, what, f, code, c.code)
			continue
		}
		wantPoly(t, what, f, code, parsed(t, p, d, c.want))
	}
}

func TestSymmetricFunction(t *testing.T) {
	swap := named(t, "swap", 5)
	checkNumbered(t, "SymmetricFunction", impl.SymmetricFunction, []oneNumbered{
		{g: swap, text: "1x+2y", k: 0, want: "1"},
		{g: swap, text: "1x+2y", k: 1, want: "3x+3y"},
		{g: swap, text: "1x+2y", k: 2, want: "2x2+2y2"},
		{g: swap, text: "1x+2y", k: 3, code: impl.ErrRange},
		{g: swap, text: "1x+1y", k: 1, want: "1x+1y"},
		{g: swap, text: "1x+1y", k: 2, code: impl.ErrRange},
		{g: swap, text: "0", k: 0, want: "1"},
		{g: swap, text: "0", k: 1, want: "0"},
		{g: swap, text: "0", k: 2, code: impl.ErrRange},
		{g: swap, text: "3", k: 0, want: "1"},
		{g: swap, text: "3", k: 1, want: "3"},
		{g: swap, text: "3", k: 2, code: impl.ErrRange},
		{g: swap, text: "1x6", k: 2, want: "1x6y6"},
		{g: swap, text: "1x7", k: 2, code: impl.ErrLimit},
		{g: swap, text: "1x7", k: 1, want: "1x7+1y7"},
		{g: swap, text: "1x12", k: 0, want: "1"},
		{g: swap, text: "1x12", k: 1, want: "1x12+1y12"},
		{g: swap, text: "1x12", k: 2, code: impl.ErrLimit},
		{g: swap, text: "1x12", k: 3, code: impl.ErrRange},
		{g: named(t, "point", 2), text: "1x12", k: 1, want: "1x12"},
		{g: named(t, "point", 2), text: "1x12", k: 2, code: impl.ErrRange},
		{g: named(t, "signs", 5), text: "1x+1y", k: 2, want: "3x2+3y2"},
		{g: named(t, "turn", 3), text: "1x", k: 2, want: "1xy+1xz+1yz"},
		{g: named(t, "turn", 3), text: "1+1x", k: 2, want: "2x+2y+2z+1xy+1xz+1yz"},
		{g: powersOf(13, 2), text: "1x", k: 11, want: "0"},
		{g: powersOf(13, 2), text: "1x", k: 12, want: "12x12"},
		{g: powersOf(13, 2), text: "1x", k: 13, code: impl.ErrRange},
		{g: shears(13), text: "1y", k: 1, want: "0"},
		{g: shears(13), text: "1y", k: 12, want: "12x12"},
		{g: shears(13), text: "1y", k: 13, code: impl.ErrLimit},
		{g: shears(13), text: "1y", k: 14, code: impl.ErrRange},
		{g: shears(7), text: "1y2", k: 7, code: impl.ErrLimit},
		{g: shears(7), text: "1y2", k: 8, code: impl.ErrRange},
		{g: named(t, "cube", 11), text: "1x+2y+3z", k: 13, code: impl.ErrLimit},
		{g: named(t, "cube", 11), text: "1x+2y+3z", k: 48, code: impl.ErrLimit},
		{g: named(t, "cube", 11), text: "1x+2y+3z", k: 49, code: impl.ErrRange},
	})
	for _, k := range []int64{-1, -2, -12, 3, 12, 13, 256, 257, math.MinInt64, math.MaxInt64} {
		for _, text := range []string{"1x", "1x12", "0", "1"} {
			f, code := impl.SymmetricFunction(swap, parsed(t, 5, 2, text), k)
			wantNoPoly(t, fmt.Sprintf("SymmetricFunction(swap, %s, %d)", text, k), f, code, impl.ErrRange)
		}
	}
}

func TestPowerSum(t *testing.T) {
	swap := named(t, "swap", 5)
	checkNumbered(t, "PowerSum", impl.PowerSum, []oneNumbered{
		{g: swap, text: "1x+2y", k: 1, want: "3x+3y"},
		{g: swap, text: "1x+2y", k: 2, want: "3xy"},
		{g: swap, text: "1x+1y", k: 2, want: "1x2+2xy+1y2"},
		{g: swap, text: "0", k: 1, want: "0"},
		{g: swap, text: "0", k: 12, want: "0"},
		{g: swap, text: "3", k: 1, want: "3"},
		{g: swap, text: "3", k: 2, want: "4"},
		{g: swap, text: "3", k: 12, want: "1"},
		{g: swap, text: "1x", k: 12, want: "1x12+1y12"},
		{g: swap, text: "1x", k: 13, code: impl.ErrRange},
		{g: swap, text: "1x2", k: 6, want: "1x12+1y12"},
		{g: swap, text: "1x2", k: 7, code: impl.ErrLimit},
		{g: swap, text: "1x7", k: 1, want: "1x7+1y7"},
		{g: swap, text: "1x7", k: 2, code: impl.ErrLimit},
		{g: swap, text: "1x12", k: 1, want: "1x12+1y12"},
		{g: swap, text: "1x12", k: 2, code: impl.ErrLimit},
		{g: swap, text: "1x12", k: 12, code: impl.ErrLimit},
		{g: swap, text: "1x12", k: 13, code: impl.ErrRange},
		{g: swap, text: "1x12", k: 0, code: impl.ErrRange},
		{g: swap, text: "1+1x4", k: 3, want: "2+3x4+3y4+3x8+3y8+1x12+1y12"},
		{g: swap, text: "1+1x4", k: 4, code: impl.ErrLimit},
		{g: named(t, "point", 13), text: "1+1x", k: 2, want: "1+2x+1x2"},
		{g: named(t, "signs", 5), text: "1x+1y", k: 2, want: "4x2+4y2"},
		{g: named(t, "signs", 5), text: "1x+1y", k: 3, want: "0"},
		{g: named(t, "swap", 2), text: "1x+1y", k: 2, want: "1x2+1y2"},
		{g: powersOf(13, 2), text: "1x", k: 11, want: "0"},
		{g: powersOf(13, 2), text: "1x", k: 12, want: "12x12"},
		{g: shears(7), text: "1y", k: 6, want: "6x6"},
	})
	for _, k := range []int64{0, -1, -12, 13, 14, 256, 257, 268, math.MinInt64, math.MaxInt64} {
		for _, text := range []string{"1x", "1x12", "0", "1"} {
			f, code := impl.PowerSum(swap, parsed(t, 5, 2, text), k)
			wantNoPoly(t, fmt.Sprintf("PowerSum(swap, %s, %d)", text, k), f, code, impl.ErrRange)
		}
	}
}

func TestTransferOf(t *testing.T) {
	checkForms(t, "TransferOf", impl.TransferOf, []oneForm{
		{named(t, "swap", 5), "1x", "1x+1y"},
		{named(t, "swap", 5), "1x+1y", "2x+2y"},
		{named(t, "swap", 2), "1x+1y", "0"},
		{named(t, "swap", 2), "1x", "1x+1y"},
		{named(t, "swap", 5), "0", "0"},
		{named(t, "swap", 5), "3", "1"},
		{named(t, "point", 13), "1+12x12", "1+12x12"},
		{named(t, "signs", 5), "1x+1x2", "4x2"},
		{named(t, "square", 3), "1x12", "1x12+1y12"},
		{named(t, "turn", 3), "1", "0"},
		{named(t, "turn", 3), "1x+1y2", "1x+1y+1z+1x2+1y2+1z2"},
		{named(t, "symmetric", 11), "1x", "2x+2y+2z"},
		{named(t, "cube", 5), "1x2", "1x2+1y2+1z2"},
		{shears(3), "1y", "0"},
		{shears(3), "1y2", "2x2"},
		{groupWith(5, 3, unipotents(5)...), "1+1x+1y3z", "0"},
	})
}

func TestReynoldsOf(t *testing.T) {
	checkForms(t, "ReynoldsOf", impl.ReynoldsOf, []oneForm{
		{named(t, "swap", 5), "1x", "3x+3y"},
		{named(t, "swap", 5), "1x+1y", "1x+1y"},
		{named(t, "swap", 5), "0", "0"},
		{named(t, "swap", 5), "3", "3"},
		{named(t, "point", 2), "1+1x12", "1+1x12"},
		{named(t, "sign", 2), "1+1x", "1+1x"},
		{named(t, "signs", 5), "1x+1x2", "1x2"},
		{named(t, "square", 3), "1x12", "2x12+2y12"},
		{named(t, "triangle", 5), "1x2", "4x2+4xy+4y2"},
		{named(t, "turn", 2), "1x", "1x+1y+1z"},
		{named(t, "symmetric", 7), "1x", "5x+5y+5z"},
		{named(t, "cube", 5), "1+1x+1x2", "1+2x2+2y2+2z2"},
		{powersOf(13, 2), "1+1x+1x11+1x12", "1+1x12"},
	})
	modular := []impl.Group{
		named(t, "swap", 2), named(t, "square", 2), named(t, "triangle", 2), named(t, "triangle", 3), named(t, "turn", 3),
		named(t, "symmetric", 2), named(t, "symmetric", 3), named(t, "cube", 2), named(t, "cube", 3),
		shears(2), shears(13), groupWith(5, 3, unipotents(5)...),
	}
	for _, g := range modular {
		for _, text := range []string{"0", "1", "1x", "1+1x12"} {
			f, code := impl.ReynoldsOf(g, parsed(t, g.Prime, g.Size, text))
			wantNoPoly(t, fmt.Sprintf("ReynoldsOf(%v, %s)", g, text), f, code, impl.ErrState)
		}
	}
	// What was thrown for a modular group is not kept for the next one.
	f, code := impl.ReynoldsOf(named(t, "swap", 5), parsed(t, 5, 2, "1x"))
	wantPoly(t, "ReynoldsOf behind errors", f, code, parsed(t, 5, 2, "3x+3y"))
}

func TestCharacterOf(t *testing.T) {
	good := []struct {
		g    impl.Group
		text string
		want []int64
	}{
		{named(t, "swap", 5), "1x+4y", []int64{4, 1}},
		{named(t, "swap", 5), "2x+3y", []int64{4, 1}},
		{named(t, "swap", 5), "1x+1y", []int64{1, 1}},
		{named(t, "swap", 5), "2", []int64{1, 1}},
		{named(t, "swap", 2), "1x+1y", []int64{1, 1}},
		{named(t, "point", 2), "1+1x", []int64{1}},
		{named(t, "point", 13), "1+1x", []int64{1}},
		{named(t, "sign", 13), "1x", []int64{1, 12}},
		{named(t, "sign", 13), "1x+5x3+2x11", []int64{1, 12}},
		{named(t, "sign", 13), "1+1x2+1x12", []int64{1, 1}},
		{named(t, "signs", 3), "1xy", []int64{1, 2, 2, 1}},
		{named(t, "signs", 3), "1x", []int64{1, 1, 2, 2}},
		{named(t, "signs", 3), "1y", []int64{1, 2, 1, 2}},
		{named(t, "square", 3), "1xy", []int64{1, 2, 2, 1, 1, 2, 2, 1}},
		{named(t, "turn", 7), "1x+2y+4z", []int64{4, 2, 1}},
		{named(t, "turn", 7), "3x+6y+5z", []int64{4, 2, 1}},
		{named(t, "turn", 7), "1x+4y+2z", []int64{2, 4, 1}},
		{shears(3), "1x", []int64{1, 1, 1}},
		{powersOf(13, 5), "1x", []int64{1, 5, 8, 12}},
		{powersOf(13, 5), "1x2+1x6+12x10", []int64{1, 12, 12, 1}},
		{groupWith(7, 2, impl.Matrix{{1}, {0, 1}}, impl.Matrix{{2}, {0, 2}}, impl.Matrix{{4}, {0, 4}}), "1x+3y+5x3y", []int64{1, 2, 4}},
	}
	for _, c := range good {
		list, code := impl.CharacterOf(c.g, parsed(t, c.g.Prime, c.g.Size, c.text))
		wantNumbers(t, fmt.Sprintf("CharacterOf(%v, %s)", c.g, c.text), list, code, c.want, impl.ErrNone)
	}
	none := []struct {
		g    impl.Group
		text string
	}{
		{named(t, "point", 2), "0"},
		{named(t, "swap", 5), "0"},
		{named(t, "cube", 13), "0"},
		{named(t, "swap", 5), "1x"},
		{named(t, "swap", 5), "1x+2y"},
		{named(t, "swap", 5), "1+1x+4y"},
		{named(t, "swap", 5), "1x+1y+1x2+4y2"},
		{named(t, "swap", 5), "1xy+1x2y"},
		{named(t, "sign", 13), "1+1x"},
		{named(t, "sign", 13), "1x+1x2"},
		{named(t, "signs", 3), "1x+1y"},
		{named(t, "square", 3), "1x"},
		{named(t, "turn", 5), "1x+2y+4z"},
		{shears(3), "1y"},
		{shears(3), "1x+1y"},
		{shears(2), "1y12"},
	}
	for _, c := range none {
		list, code := impl.CharacterOf(c.g, parsed(t, c.g.Prime, c.g.Size, c.text))
		wantNumbers(t, fmt.Sprintf("CharacterOf(%v, %s)", c.g, c.text), list, code, nil, impl.ErrState)
	}
}

// askedActions are the functions of a group and a polynomial, also with numbers that are in no
// range; they report whether the result is the zero value.
func askedActions() map[string]func(g impl.Group, f impl.Poly) (bool, int64) {
	poly := func(x impl.Poly, code int64) (bool, int64) { return isZeroPoly(x), code }
	numbers := func(list []int64, code int64) (bool, int64) { return len(list) == 0, code }
	calls := map[string]func(g impl.Group, f impl.Poly) (bool, int64){
		"OrbitOfPoly": func(g impl.Group, f impl.Poly) (bool, int64) {
			list, code := impl.OrbitOfPoly(g, f)
			return len(list) == 0, code
		},
		"IsInvariant": func(g impl.Group, f impl.Poly) (bool, int64) {
			yes, code := impl.IsInvariant(g, f)
			return !yes, code
		},
		"StabiliserOfPoly": func(g impl.Group, f impl.Poly) (bool, int64) { return numbers(impl.StabiliserOfPoly(g, f)) },
		"OrbitSum":         func(g impl.Group, f impl.Poly) (bool, int64) { return poly(impl.OrbitSum(g, f)) },
		"OrbitProduct":     func(g impl.Group, f impl.Poly) (bool, int64) { return poly(impl.OrbitProduct(g, f)) },
		"TransferOf":       func(g impl.Group, f impl.Poly) (bool, int64) { return poly(impl.TransferOf(g, f)) },
		"ReynoldsOf":       func(g impl.Group, f impl.Poly) (bool, int64) { return poly(impl.ReynoldsOf(g, f)) },
		"CharacterOf":      func(g impl.Group, f impl.Poly) (bool, int64) { return numbers(impl.CharacterOf(g, f)) },
	}
	for _, k := range []int64{math.MinInt64, -1, 0, 1, 2, 12, 13, 49, math.MaxInt64} {
		calls[fmt.Sprint("SymmetricFunction ", k)] = func(g impl.Group, f impl.Poly) (bool, int64) {
			return poly(impl.SymmetricFunction(g, f, k))
		}
		calls[fmt.Sprint("PowerSum ", k)] = func(g impl.Group, f impl.Poly) (bool, int64) {
			return poly(impl.PowerSum(g, f, k))
		}
	}
	return calls
}

// wantZero checks an error of a call and the zero value beside it.
func wantZero(t *testing.T, what string, zero bool, code int64, want int64) {
	t.Helper()
	if !zero || code != want {
		t.Errorf("%s: code %d, the zero value: %v; want %d", what, code, zero, want)
	}
}

// TestActionsOfNoGroups gives what is no group, or no polynomial, to all functions, also together
// with what is an error later on.
func TestActionsOfNoGroups(t *testing.T) {
	polys := map[string]impl.Poly{
		"a polynomial": parsed(t, 5, 2, "1x+1y2"), "0": built(5, 2), "another prime": parsed(t, 3, 2, "1x12"),
		"other letters": parsed(t, 5, 3, "1z12"), "no polynomial": built(5, 2, term(5, 1)), "the zero value": {},
	}
	groups := map[string]impl.Group{
		"swap": named(t, "swap", 5), "another prime": named(t, "swap", 2), "another size": named(t, "cube", 5),
	}
	for name, call := range askedActions() {
		for why, g := range noGroups() {
			for of, f := range polys {
				zero, code := call(g, f)
				wantZero(t, name+" of "+why+" and "+of, zero, code, impl.ErrInvalid)
			}
		}
		for why, f := range badPolys() {
			for of, g := range groups {
				zero, code := call(g, f)
				wantZero(t, name+" of "+of+" and "+why, zero, code, impl.ErrInvalid)
			}
		}
	}
}

// TestActionsOfOthers gives polynomials with other primes, or in other letters, to all functions:
// that is found before modular groups, what is no semi-invariant, and degrees above MaxDegree.
func TestActionsOfOthers(t *testing.T) {
	for name, call := range askedActions() {
		for _, p := range []int64{2, 3, 13} {
			for _, of := range groupNames {
				g := named(t, of, p)
				for _, q := range primes {
					for d := int64(1); d <= 3; d++ {
						if q == p && d == g.Size {
							continue
						}
						for _, text := range []string{"0", "1", "1x", "1x7", "1+1x12"} {
							zero, code := call(g, parsed(t, q, d, text))
							wantZero(t, fmt.Sprintf("%s of %q for %d and %s for %d, %d", name, of, p, text, q, d), zero, code, impl.ErrRange)
						}
					}
				}
			}
		}
	}
}
