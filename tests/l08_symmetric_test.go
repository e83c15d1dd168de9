package tests

import (
	"fmt"
	"math"
	"slices"
	"testing"

	"loop.example/g01285/impl"
)

func TestPartitionsOf(t *testing.T) {
	good := []struct {
		n, d int64
		want [][]int64
	}{
		{3, 2, [][]int64{{3, 0}, {2, 1}}},
		{0, 1, [][]int64{{0}}},
		{0, 2, [][]int64{{0, 0}}},
		{0, 3, [][]int64{{0, 0, 0}}},
		{1, 1, [][]int64{{1}}},
		{1, 3, [][]int64{{1, 0, 0}}},
		{2, 2, [][]int64{{2, 0}, {1, 1}}},
		{2, 3, [][]int64{{2, 0, 0}, {1, 1, 0}}},
		{3, 3, [][]int64{{3, 0, 0}, {2, 1, 0}, {1, 1, 1}}},
		{6, 3, [][]int64{{6, 0, 0}, {5, 1, 0}, {4, 2, 0}, {4, 1, 1}, {3, 3, 0}, {3, 2, 1}, {2, 2, 2}}},
		{12, 1, [][]int64{{12}}},
		{12, 2, [][]int64{{12, 0}, {11, 1}, {10, 2}, {9, 3}, {8, 4}, {7, 5}, {6, 6}}},
		{12, 3, [][]int64{
			{12, 0, 0}, {11, 1, 0}, {10, 2, 0}, {10, 1, 1}, {9, 3, 0}, {9, 2, 1}, {8, 4, 0}, {8, 3, 1}, {8, 2, 2}, {7, 5, 0},
			{7, 4, 1}, {7, 3, 2}, {6, 6, 0}, {6, 5, 1}, {6, 4, 2}, {6, 3, 3}, {5, 5, 2}, {5, 4, 3}, {4, 4, 4},
		}},
	}
	for _, c := range good {
		lists, code := impl.PartitionsOf(c.n, c.d)
		wantLists(t, fmt.Sprintf("PartitionsOf(%d, %d)", c.n, c.d), lists, code, c.want, impl.ErrNone)
	}
}

func TestPartitionsOfRanges(t *testing.T) {
	for n, inside := range askedDegrees(impl.MaxDegree) {
		for d := int64(1); d <= impl.MaxVars; d++ {
			lists, code := impl.PartitionsOf(n, d)
			what := fmt.Sprintf("PartitionsOf(%d, %d)", n, d)
			if inside {
				wantLists(t, what, lists, code, partitionsByHand(n, d, n), impl.ErrNone)
			} else {
				wantLists(t, what, lists, code, nil, impl.ErrRange)
			}
		}
		for _, d := range outsideLetters {
			lists, code := impl.PartitionsOf(n, d)
			wantLists(t, fmt.Sprintf("PartitionsOf(%d, %d)", n, d), lists, code, nil, impl.ErrRange)
		}
	}
}

func TestMonomialSum(t *testing.T) {
	good := []struct {
		p    int64
		exps []int64
		want string
	}{
		{5, []int64{2, 1}, "1x2y+1xy2"},
		{5, []int64{1, 2}, "1x2y+1xy2"},
		{2, []int64{1, 0}, "1x+1y"},
		{5, []int64{1, 1}, "1xy"},
		{2, []int64{1, 1}, "1xy"},
		{2, []int64{0}, "1"},
		{2, []int64{0, 0}, "1"},
		{3, []int64{0, 0, 0}, "1"},
		{13, []int64{7}, "1x7"},
		{3, []int64{0, 0, 1}, "1x+1y+1z"},
		{3, []int64{0, 2, 0}, "1x2+1y2+1z2"},
		{2, []int64{2, 2, 2}, "1x2y2z2"},
		{2, []int64{2, 1, 2}, "1x2y2z+1x2yz2+1xy2z2"},
		{3, []int64{1, 0, 1}, "1xy+1xz+1yz"},
		{3, []int64{3, 2, 1}, "1x3y2z+1x3yz2+1x2y3z+1x2yz3+1xy3z2+1xy2z3"},
		{3, []int64{1, 2, 3}, "1x3y2z+1x3yz2+1x2y3z+1x2yz3+1xy3z2+1xy2z3"},
		{2, []int64{0, 2, 1}, "1x2y+1x2z+1xy2+1xz2+1y2z+1yz2"},
		// The sum of the exponents is MaxDegree.
		{13, []int64{12}, "1x12"},
		{5, []int64{0, 12}, "1x12+1y12"},
		{5, []int64{6, 6}, "1x6y6"},
		{5, []int64{7, 5}, "1x7y5+1x5y7"},
		{7, []int64{4, 4, 4}, "1x4y4z4"},
		{7, []int64{0, 12, 0}, "1x12+1y12+1z12"},
		{7, []int64{5, 5, 2}, "1x5y5z2+1x5y2z5+1x2y5z5"},
	}
	for _, c := range good {
		f, code := impl.MonomialSum(c.p, c.exps)
		wantPoly(t, fmt.Sprintf("MonomialSum(%d, %v)", c.p, c.exps), f, code, parsed(t, c.p, int64(len(c.exps)), c.want))
	}
}

// greatLists are lists of 1 to MaxVars numbers of at least 0, none less than the next one, with a sum above
// MaxDegree.
func greatLists() [][]int64 {
	return [][]int64{
		{13}, {14}, {255}, {256}, {268}, {1 << 32}, {1<<32 + 12}, {math.MaxInt64},
		{13, 0}, {12, 1}, {7, 6}, {12, 12}, {128, 128}, {256, 0}, {1 << 32, 1}, {1 << 62, 1 << 62}, {math.MaxInt64, 0}, {math.MaxInt64, math.MaxInt64},
		{13, 0, 0}, {12, 1, 0}, {11, 1, 1}, {7, 6, 0}, {5, 4, 4}, {12, 12, 12}, {86, 85, 85}, {255, 1, 0}, {256, 256, 256},
		{1 << 62, 1 << 62, 0}, {math.MaxInt64, 1, 1}, {math.MaxInt64, math.MaxInt64, 2}, {math.MaxInt64, math.MaxInt64, math.MaxInt64},
	}
}

// noExponents are lists that are none of exponents, each for one reason.
func noExponents() [][]int64 {
	lists := [][]int64{
		nil, {}, {1, 1, 1, 1}, {3, 2, 1, 0}, {0, 0, 0, 0}, {12, 12, 12, 12}, {2, 1, 0, -1}, zeros(5), zeros(256), zeros(257), zeros(300),
	}
	for _, bad := range []int64{-1, -2, -12, -255, -256, -1 << 32, math.MinInt64, math.MinInt64 + 1} {
		lists = append(lists, []int64{bad}, []int64{bad, bad, bad}, []int64{math.MaxInt64, bad}, []int64{math.MaxInt64, math.MaxInt64, bad})
		for _, other := range []int64{0, 1, -bad, 13} {
			lists = append(lists, []int64{bad, other}, []int64{other, bad}, []int64{bad, other, other}, []int64{other, bad, other}, []int64{other, other, bad})
		}
	}
	return lists
}

func TestMonomialSumErrors(t *testing.T) {
	for _, p := range primes {
		for _, exps := range noExponents() {
			f, code := impl.MonomialSum(p, exps)
			wantNoPoly(t, fmt.Sprintf("MonomialSum(%d, %v)", p, exps), f, code, impl.ErrRange)
		}
		for _, exps := range greatLists() {
			f, code := impl.MonomialSum(p, exps)
			wantNoPoly(t, fmt.Sprintf("MonomialSum(%d, %v)", p, exps), f, code, impl.ErrLimit)
			slices.Reverse(exps)
			f, code = impl.MonomialSum(p, exps)
			wantNoPoly(t, fmt.Sprintf("MonomialSum(%d, %v)", p, exps), f, code, impl.ErrLimit)
		}
	}
	for _, p := range noPrimes {
		for _, exps := range append(greatLists(), []int64{1}, []int64{2, 1}, []int64{0, 0, 0}, nil, []int64{-1}) {
			f, code := impl.MonomialSum(p, exps)
			wantNoPoly(t, fmt.Sprintf("MonomialSum(%d, %v)", p, exps), f, code, impl.ErrRange)
		}
	}
}

// numberedCall is a function of a prime, a number of letters, and a number from least to the one that most
// tells for this number of letters.
type numberedCall struct {
	least  int64
	most   func(d int64) int64
	call   func(p int64, d int64, k int64) (impl.Poly, int64)
	byHand func(p int64, d int64, k int64) impl.Poly
}

func numberedCalls() map[string]numberedCall {
	letters := func(d int64) int64 { return d }
	degree := func(int64) int64 { return impl.MaxDegree }
	return map[string]numberedCall{
		"ElementaryPoly": {0, letters, impl.ElementaryPoly, elementaryByHand},
		"CompletePoly":   {0, degree, impl.CompletePoly, completeByHand},
		"PowerSumPoly":   {1, degree, impl.PowerSumPoly, powersByHand},
	}
}

// TestNumberedPolys asks for all numbers that there are, and for others.
func TestNumberedPolys(t *testing.T) {
	for name, c := range numberedCalls() {
		for _, p := range primes {
			for d := int64(1); d <= impl.MaxVars; d++ {
				for k := c.least; k <= c.most(d); k++ {
					f, code := c.call(p, d, k)
					wantPoly(t, fmt.Sprintf("%s(%d, %d, %d)", name, p, d, k), f, code, c.byHand(p, d, k))
				}
				for _, k := range []int64{
					c.least - 1, c.least - 2, -12, -256, c.most(d) + 1, c.most(d) + 2, 13, 255, 256, 257,
					1 << 32, 1<<32 + 1, math.MinInt64, math.MinInt64 + 1, math.MaxInt64,
				} {
					f, code := c.call(p, d, k)
					wantNoPoly(t, fmt.Sprintf("%s(%d, %d, %d)", name, p, d, k), f, code, impl.ErrRange)
				}
			}
		}
	}
}

func TestNumberedPolysOfOthers(t *testing.T) {
	asked := []int64{math.MinInt64, -1, 0, 1, 2, 3, 12, 13, math.MaxInt64}
	for name, c := range numberedCalls() {
		for _, k := range asked {
			for _, p := range noPrimes {
				for d := int64(0); d <= 4; d++ {
					f, code := c.call(p, d, k)
					wantNoPoly(t, fmt.Sprintf("%s(%d, %d, %d)", name, p, d, k), f, code, impl.ErrRange)
				}
			}
			for _, p := range primes {
				for _, d := range outsideLetters {
					f, code := c.call(p, d, k)
					wantNoPoly(t, fmt.Sprintf("%s(%d, %d, %d)", name, p, d, k), f, code, impl.ErrRange)
				}
			}
		}
	}
}

func TestNumberedPolysByTexts(t *testing.T) {
	calls := numberedCalls()
	cases := []struct {
		name    string
		p, d, k int64
		want    string
	}{
		{"ElementaryPoly", 5, 1, 0, "1"},
		{"ElementaryPoly", 5, 1, 1, "1x"},
		{"ElementaryPoly", 5, 2, 0, "1"},
		{"ElementaryPoly", 5, 2, 1, "1x+1y"},
		{"ElementaryPoly", 5, 2, 2, "1xy"},
		{"ElementaryPoly", 2, 3, 0, "1"},
		{"ElementaryPoly", 2, 3, 1, "1x+1y+1z"},
		{"ElementaryPoly", 2, 3, 2, "1xy+1xz+1yz"},
		{"ElementaryPoly", 2, 3, 3, "1xyz"},
		{"CompletePoly", 5, 1, 0, "1"},
		{"CompletePoly", 5, 1, 12, "1x12"},
		{"CompletePoly", 5, 2, 2, "1x2+1xy+1y2"},
		{"CompletePoly", 2, 3, 0, "1"},
		{"CompletePoly", 2, 3, 1, "1x+1y+1z"},
		{"CompletePoly", 2, 3, 2, "1x2+1xy+1xz+1y2+1yz+1z2"},
		{"PowerSumPoly", 5, 1, 1, "1x"},
		{"PowerSumPoly", 5, 1, 12, "1x12"},
		{"PowerSumPoly", 5, 2, 2, "1x2+1y2"},
		{"PowerSumPoly", 5, 2, 12, "1x12+1y12"},
		{"PowerSumPoly", 3, 3, 1, "1x+1y+1z"},
		{"PowerSumPoly", 3, 3, 3, "1x3+1y3+1z3"},
	}
	for _, c := range cases {
		f, code := calls[c.name].call(c.p, c.d, c.k)
		wantPoly(t, fmt.Sprintf("%s(%d, %d, %d)", c.name, c.p, c.d, c.k), f, code, parsed(t, c.p, c.d, c.want))
	}
}

// kindCase is a polynomial that is symmetric, alternating, both or neither.
type kindCase struct {
	p, d                   int64
	text                   string
	symmetric, alternating bool
}

func kindCases() []kindCase {
	return []kindCase{
		// In one letter there is nothing to exchange.
		{5, 1, "0", true, true},
		{2, 1, "1", true, true},
		{5, 1, "3", true, true},
		{13, 1, "1x+5x12", true, true},
		{2, 1, "1+1x+1x2", true, true},
		{5, 2, "0", true, true},
		{5, 2, "1", true, false},
		{5, 2, "4", true, false},
		{5, 2, "1x+1y", true, false},
		{5, 2, "1xy", true, false},
		{5, 2, "2+3xy+1x12+1y12", true, false},
		{5, 2, "1x6y6", true, false},
		{5, 2, "1x+4y", false, true},
		{5, 2, "4x+1y", false, true},
		{5, 2, "2x+3y+1x2y+4xy2", false, true},
		{5, 2, "1x12+4y12", false, true},
		{5, 2, "1x7y5+4x5y7", false, true},
		{5, 2, "1x", false, false},
		{5, 2, "1y", false, false},
		{5, 2, "1x12", false, false},
		{5, 2, "1x+2y", false, false},
		{5, 2, "1x+3y", false, false},
		{5, 2, "1x+4y+1xy", false, false},
		{5, 2, "1+1x+4y", false, false},
		{5, 2, "1x+4y+1x2+1y2", false, false},
		{5, 2, "1x+1y+1x2", false, false},
		{3, 2, "1x+2y", false, true},
		{3, 2, "1x+1y", true, false},
		{13, 2, "1x2+12y2", false, true},
		// Modulo 2 all that is alternating is symmetric too.
		{2, 2, "0", true, true},
		{2, 2, "1", true, false},
		{2, 2, "1xy", true, false},
		{2, 2, "1x6y6", true, false},
		{2, 2, "1x+1y", true, true},
		{2, 2, "1x2y+1xy2", true, true},
		{2, 2, "1x+1y+1x12+1y12", true, true},
		{2, 2, "1+1x+1y", true, false},
		{2, 2, "1x+1y+1xy", true, false},
		{2, 2, "1x+1y+1x6y6", true, false},
		{2, 2, "1x", false, false},
		{2, 2, "1x+1xy", false, false},
		{2, 2, "1y+1x2", false, false},
		{2, 3, "0", true, true},
		{2, 3, "1", true, false},
		{2, 3, "1x+1y+1z", true, false},
		{2, 3, "1xy+1xz+1yz", true, false},
		{2, 3, "1xyz", true, false},
		{2, 3, "1x2y+1x2z+1xy2+1xz2+1y2z+1yz2", true, true},
		{2, 3, "1x2y+1x2z+1xy2+1xyz+1xz2+1y2z+1yz2", true, false},
		{2, 3, "1x+1y+1z+1x2y+1x2z+1xy2+1xz2+1y2z+1yz2", true, false},
		{2, 3, "1x2y2+1x2z2+1y2z2", true, false},
		{2, 3, "1x+1y", false, false},
		{2, 3, "1x2y+1xy2", false, false},
		{2, 3, "1x2y+1xz2+1y2z", false, false},
		{5, 3, "0", true, true},
		{5, 3, "3", true, false},
		{5, 3, "1x+1y+1z", true, false},
		{5, 3, "1x4y4z4", true, false},
		{5, 3, "1x2y+1x2z+1xy2+1xz2+1y2z+1yz2", true, false},
		{5, 3, "1x2y+4x2z+4xy2+1xz2+1y2z+4yz2", false, true},
		{5, 3, "4x2y+1x2z+1xy2+4xz2+4y2z+1yz2", false, true},
		{5, 3, "1x2y+4x2z+4xy2+1xyz+1xz2+1y2z+4yz2", false, false},
		{5, 3, "1+1x2y+4x2z+4xy2+1xz2+1y2z+4yz2", false, false},
		// Only some exchanges leave these, or change their signs, or only turns do.
		{5, 3, "1x+1y", false, false},
		{5, 3, "1x+1z", false, false},
		{5, 3, "1y+1z", false, false},
		{5, 3, "1x+4y", false, false},
		{5, 3, "1x+4z", false, false},
		{5, 3, "1y+4z", false, false},
		{5, 3, "1x+1y+2z", false, false},
		{5, 3, "1x2y+4xy2", false, false},
		{5, 3, "1x2y+1xz2+1y2z", false, false},
		{5, 3, "1x2z+1xy2+1yz2", false, false},
		{5, 3, "1x2y+1x2z+1xy2+4xz2+1y2z+4yz2", false, false},
	}
}

func TestKindsOfPolys(t *testing.T) {
	for _, c := range kindCases() {
		f := parsed(t, c.p, c.d, c.text)
		yes, code := impl.IsSymmetric(f)
		wantBool(t, fmt.Sprintf("IsSymmetric(%s) for %d, %d", c.text, c.p, c.d), yes, code, c.symmetric)
		yes, code = impl.IsAlternating(f)
		wantBool(t, fmt.Sprintf("IsAlternating(%s) for %d, %d", c.text, c.p, c.d), yes, code, c.alternating)
		x, code := impl.TellSymmetric(f)
		if !c.symmetric {
			wantNoPoly(t, fmt.Sprintf("TellSymmetric(%s) for %d, %d", c.text, c.p, c.d), x, code, impl.ErrState)
		} else if code != impl.ErrNone {
			t.Errorf("TellSymmetric(%s) for %d, %d: code %d", c.text, c.p, c.d, code)
		}
		q, code := impl.AlternatingQuotient(f)
		if !c.alternating {
			wantNoPoly(t, fmt.Sprintf("AlternatingQuotient(%s) for %d, %d", c.text, c.p, c.d), q, code, impl.ErrState)
		} else if code != impl.ErrNone {
			t.Errorf("AlternatingQuotient(%s) for %d, %d: code %d", c.text, c.p, c.d, code)
		}
	}
}

// TestSymmetricOfNoPolys finds what is no polynomial before all other errors.
func TestSymmetricOfNoPolys(t *testing.T) {
	bools := map[string]func(x impl.Poly) (bool, int64){"IsSymmetric": impl.IsSymmetric, "IsAlternating": impl.IsAlternating}
	polys := map[string]func(x impl.Poly) (impl.Poly, int64){
		"TellSymmetric": impl.TellSymmetric, "SymmetricOf": impl.SymmetricOf, "AlternatingQuotient": impl.AlternatingQuotient,
	}
	bad := badPolys()
	bad["no polynomial above the bound"] = built(5, 2, term(1, 0, 12), term(1, 12))
	bad["no symmetric polynomial of four"] = built(4, 2, term(1, 1), term(1, 0, 1))
	for why, f := range bad {
		for name, call := range bools {
			yes, code := call(f)
			wantZero(t, name+": "+why, !yes, code, impl.ErrInvalid)
		}
		for name, call := range polys {
			x, code := call(f)
			wantNoPoly(t, name+": "+why, x, code, impl.ErrInvalid)
		}
	}
}

// toldCase is a polynomial with the symmetric one that it tells.
type toldCase struct {
	p, d         int64
	x, symmetric string
}

func toldCases() []toldCase {
	return []toldCase{
		{5, 1, "0", "0"},
		{2, 1, "1", "1"},
		{5, 1, "3+2x12", "3+2x12"},
		{5, 2, "0", "0"},
		{5, 2, "3", "3"},
		{5, 2, "1x", "1x+1y"},
		{5, 2, "1y", "1xy"},
		{5, 2, "3y+1x2", "1x2+1y2"},
		{5, 2, "1y+1x2", "1x2+3xy+1y2"},
		{5, 2, "2+1x+4y", "2+1x+1y+4xy"},
		{5, 2, "2xy+1x3", "1x3+1y3"},
		{3, 2, "1x3", "1x3+1y3"},
		{2, 2, "1x2", "1x2+1y2"},
		{2, 2, "1x4y4+1x12", "1x12+1y12"},
		{3, 2, "1x9", "1x9+1y9"},
		{5, 3, "1z", "1xyz"},
		{5, 3, "1y", "1xy+1xz+1yz"},
		{7, 3, "5y+1x2", "1x2+1y2+1z2"},
		{7, 3, "3z+4xy+1x3", "1x3+1y3+1z3"},
		{3, 3, "1x3", "1x3+1y3+1z3"},
		{2, 3, "1z+1xy", "1x2y+1x2z+1xy2+1xz2+1y2z+1yz2"},
		{5, 3, "2z+1xy", "1x2y+1x2z+1xy2+1xz2+1y2z+1yz2"},
		{7, 3, "1+2x+3y+4z", "1+2x+2y+2z+3xy+3xz+3yz+4xyz"},
		// The bound for substitutions is MaxDegree.
		{5, 2, "1y6", "1x6y6"},
		{5, 2, "1x10y", "1x11y+2x6y6+1xy11"},
		{5, 3, "1z4", "1x4y4z4"},
		{2, 3, "1y4", "1x4y4+1x4z4+1y4z4"},
		{2, 3, "1x8", "1x8+1y8+1z8"},
		{5, 3, "1y3z2", "1x5y5z2+3x5y4z3+3x5y3z4+1x5y2z5+3x4y5z3+1x4y4z4+3x4y3z5+3x3y5z4+3x3y4z5+1x2y5z5"},
		{2, 2, "1x8y2", "1x10y2+1x2y10"},
	}
}

func TestToldPolys(t *testing.T) {
	for _, c := range toldCases() {
		x, want := parsed(t, c.p, c.d, c.x), parsed(t, c.p, c.d, c.symmetric)
		f, code := impl.SymmetricOf(x)
		wantPoly(t, fmt.Sprintf("SymmetricOf(%s) for %d, %d", c.x, c.p, c.d), f, code, want)
		y, code := impl.TellSymmetric(want)
		wantPoly(t, fmt.Sprintf("TellSymmetric(%s) for %d, %d", c.symmetric, c.p, c.d), y, code, x)
	}
}

// TestBoundOfToldPolys asks for one Term: that of the letters 0, 1, 2 has the bound of its exponents times 1,
// 2, 3, also where powers of sums have few Terms only.
func TestBoundOfToldPolys(t *testing.T) {
	found, refused := 0, 0
	for _, p := range primes {
		for d := int64(1); d <= impl.MaxVars; d++ {
			for n := int64(0); n <= impl.MaxDegree; n++ {
				for _, e := range monomials(d, n) {
					x := built(p, d, impl.Term{Exps: e, Value: p - 1})
					f, ok := symmetricOf(t, x)
					if !ok {
						refused++
						continue
					}
					found++
					if topDegree(f) != putInDegree(x) {
						t.Errorf("SymmetricOf(%v) = %v", x, f)
					}
				}
			}
		}
	}
	if found < 500 || refused < 500 {
		t.Errorf("%d polynomials are told, and %d refused", found, refused)
	}
}

func TestSymmetricOfLimits(t *testing.T) {
	cases := []struct {
		d    int64
		text string
	}{
		// The bounds are 13 and more.
		{2, "1x11y"}, {2, "1xy6"}, {2, "1y7"}, {2, "1y12"}, {2, "1+1x+1y7"}, {2, "1y7+1x12"}, {2, "1x11y+1y12"},
		{3, "1xz4"}, {3, "1y5z"}, {3, "1x10z"}, {3, "1x11y"}, {3, "1xy6"}, {3, "1z5"}, {3, "1z12"}, {3, "1yz4"}, {3, "1x+1z5+1x12"},
	}
	for _, c := range cases {
		for _, p := range primes {
			f, code := impl.SymmetricOf(parsed(t, p, c.d, c.text))
			wantNoPoly(t, fmt.Sprintf("SymmetricOf(%s) for %d, %d", c.text, p, c.d), f, code, impl.ErrLimit)
		}
	}
}

func TestVandermondePoly(t *testing.T) {
	cases := []struct {
		p, d int64
		want string
	}{
		{2, 1, "1"},
		{13, 1, "1"},
		{2, 2, "1x+1y"},
		{3, 2, "1x+2y"},
		{5, 2, "1x+4y"},
		{13, 2, "1x+12y"},
		{2, 3, "1x2y+1x2z+1xy2+1xz2+1y2z+1yz2"},
		{5, 3, "1x2y+4x2z+4xy2+1xz2+1y2z+4yz2"},
		{11, 3, "1x2y+10x2z+10xy2+1xz2+1y2z+10yz2"},
	}
	for _, c := range cases {
		f, code := impl.VandermondePoly(c.p, c.d)
		wantPoly(t, fmt.Sprintf("VandermondePoly(%d, %d)", c.p, c.d), f, code, parsed(t, c.p, c.d, c.want))
	}
	for _, p := range primes {
		for d := int64(1); d <= impl.MaxVars; d++ {
			f, code := impl.VandermondePoly(p, d)
			wantPoly(t, fmt.Sprintf("VandermondePoly(%d, %d)", p, d), f, code, differencesByHand(p, d))
		}
		for _, d := range outsideLetters {
			f, code := impl.VandermondePoly(p, d)
			wantNoPoly(t, fmt.Sprintf("VandermondePoly(%d, %d)", p, d), f, code, impl.ErrRange)
		}
	}
	for _, p := range noPrimes {
		for d := int64(-1); d <= 5; d++ {
			f, code := impl.VandermondePoly(p, d)
			wantNoPoly(t, fmt.Sprintf("VandermondePoly(%d, %d)", p, d), f, code, impl.ErrRange)
		}
	}
}

func TestAlternatingQuotient(t *testing.T) {
	cases := []struct {
		p, d    int64
		x, want string
	}{
		// In one letter the quotient is the polynomial itself.
		{5, 1, "0", "0"},
		{2, 1, "1", "1"},
		{13, 1, "3+5x+12x12", "3+5x+12x12"},
		{5, 2, "0", "0"},
		{2, 2, "0", "0"},
		{5, 2, "1x+4y", "1"},
		{5, 2, "4x+1y", "4"},
		{2, 2, "1x+1y", "1"},
		{5, 2, "1x2+4y2", "1x+1y"},
		{5, 2, "1x2y+4xy2", "1xy"},
		{5, 2, "3x+2y+1x3+4y3", "3+1x2+1xy+1y2"},
		{2, 2, "1x3+1y3", "1x2+1xy+1y2"},
		{2, 2, "1x2+1y2", "1x+1y"},
		{5, 2, "1x5+4y5", "1x4+1x3y+1x2y2+1xy3+1y4"},
		{5, 2, "1x7y5+4x5y7", "1x6y5+1x5y6"},
		{2, 2, "1x12+1y12", "1x11+1x10y+1x9y2+1x8y3+1x7y4+1x6y5+1x5y6+1x4y7+1x3y8+1x2y9+1xy10+1y11"},
		{5, 3, "0", "0"},
		{5, 3, "1x2y+4x2z+4xy2+1xz2+1y2z+4yz2", "1"},
		{5, 3, "3x2y+2x2z+2xy2+3xz2+3y2z+2yz2", "3"},
		{2, 3, "1x2y+1x2z+1xy2+1xz2+1y2z+1yz2", "1"},
		{2, 3, "1x3y+1x3z+1xy3+1xz3+1y3z+1yz3", "1x+1y+1z"},
		{5, 3, "1x3y2+4x3z2+4x2y3+1x2z3+1y3z2+4y2z3", "1xy+1xz+1yz"},
		{5, 3, "1x5y4z3+4x5y3z4+4x4y5z3+1x4y3z5+1x3y5z4+4x3y4z5", "1x3y3z3"},
	}
	for _, c := range cases {
		f, code := impl.AlternatingQuotient(parsed(t, c.p, c.d, c.x))
		wantPoly(t, fmt.Sprintf("AlternatingQuotient(%s) for %d, %d", c.x, c.p, c.d), f, code, parsed(t, c.p, c.d, c.want))
	}
	for _, p := range primes {
		for d := int64(1); d <= impl.MaxVars; d++ {
			wantPoly(t, "the quotient of the Vandermonde polynomial", quotient(t, vandermonde(t, p, d)), impl.ErrNone, built(p, d, term(1)))
			wantPoly(t, "the quotient of 0", quotient(t, built(p, d)), impl.ErrNone, built(p, d))
		}
	}
}

func TestSchurPoly(t *testing.T) {
	cases := []struct {
		p    int64
		list []int64
		want string
	}{
		{2, []int64{0}, "1"},
		{5, []int64{1}, "1x"},
		{2, []int64{0, 0}, "1"},
		{5, []int64{1, 0}, "1x+1y"},
		{5, []int64{2, 0}, "1x2+1xy+1y2"},
		{5, []int64{1, 1}, "1xy"},
		{2, []int64{2, 1}, "1x2y+1xy2"},
		{2, []int64{2, 2}, "1x2y2"},
		{3, []int64{3, 1}, "1x3y+1x2y2+1xy3"},
		{2, []int64{0, 0, 0}, "1"},
		{5, []int64{1, 0, 0}, "1x+1y+1z"},
		{5, []int64{1, 1, 0}, "1xy+1xz+1yz"},
		{5, []int64{1, 1, 1}, "1xyz"},
		{5, []int64{2, 1, 0}, "1x2y+1x2z+1xy2+2xyz+1xz2+1y2z+1yz2"},
		{2, []int64{2, 1, 0}, "1x2y+1x2z+1xy2+1xz2+1y2z+1yz2"},
		{5, []int64{2, 2, 1}, "1x2y2z+1x2yz2+1xy2z2"},
		// The degree of the alternant is MaxDegree.
		{13, []int64{12}, "1x12"},
		{5, []int64{11, 0}, "1x11+1x10y+1x9y2+1x8y3+1x7y4+1x6y5+1x5y6+1x4y7+1x3y8+1x2y9+1xy10+1y11"},
		{5, []int64{6, 5}, "1x6y5+1x5y6"},
		{5, []int64{3, 3, 3}, "1x3y3z3"},
		{5, []int64{4, 3, 2}, "1x4y3z2+1x4y2z3+1x3y4z2+2x3y3z3+1x3y2z4+1x2y4z3+1x2y3z4"},
	}
	for _, c := range cases {
		f, code := impl.SchurPoly(c.p, c.list)
		wantPoly(t, fmt.Sprintf("SchurPoly(%d, %v)", c.p, c.list), f, code, parsed(t, c.p, int64(len(c.list)), c.want))
	}
}

// ascents are lists of numbers of at least 0 with one that is less than the next one.
func ascents() [][]int64 {
	return [][]int64{
		{0, 1}, {1, 2}, {11, 12}, {0, 13}, {12, 13}, {13, 14}, {0, math.MaxInt64}, {math.MaxInt64 - 1, math.MaxInt64}, {255, 256}, {1, 1 << 32},
		{0, 0, 1}, {0, 1, 0}, {0, 1, 1}, {1, 1, 2}, {1, 2, 2}, {2, 1, 2}, {1, 2, 1}, {2, 0, 1}, {1, 2, 3}, {9, 0, 1}, {13, 0, 1}, {13, 1, 2}, {0, 13, 0},
		{math.MaxInt64, 0, math.MaxInt64}, {0, math.MaxInt64, math.MaxInt64}, {256, 0, 256},
	}
}

// TestSchurPolyErrors finds what is no partition before a degree that is too great.
func TestSchurPolyErrors(t *testing.T) {
	for _, p := range primes {
		for _, list := range slices.Concat(noExponents(), ascents()) {
			f, code := impl.SchurPoly(p, list)
			wantNoPoly(t, fmt.Sprintf("SchurPoly(%d, %v)", p, list), f, code, impl.ErrRange)
		}
		// The alternants of the others have the degree 13 and more.
		others := [][]int64{{12, 0}, {11, 1}, {7, 5}, {6, 6}, {10, 0, 0}, {9, 1, 0}, {8, 1, 1}, {5, 5, 0}, {4, 3, 3}, {4, 4, 4}, {12, 0, 0}, {11, 0, 0}, {6, 6, 0}}
		for _, list := range slices.Concat(greatLists(), others) {
			f, code := impl.SchurPoly(p, list)
			wantNoPoly(t, fmt.Sprintf("SchurPoly(%d, %v)", p, list), f, code, impl.ErrLimit)
		}
	}
	for _, p := range noPrimes {
		for _, list := range slices.Concat(greatLists(), ascents(), [][]int64{{1}, {2, 1}, {0, 0, 0}, nil, {-1}, {4, 4, 4}}) {
			f, code := impl.SchurPoly(p, list)
			wantNoPoly(t, fmt.Sprintf("SchurPoly(%d, %v)", p, list), f, code, impl.ErrRange)
		}
	}
}
