package tests

import (
	"fmt"
	"math/rand"
	"testing"

	"loop.example/g01285/impl"
)

// outsideLetters are numbers of letters that there are not.
var outsideLetters = []int64{-1 << 63, -256, -1, 0, 4, 5, 255, 256, 257, 1 << 32, 1<<32 + 1, 1<<32 + 2, 1<<63 - 1}

// lettersByHand returns the letters as polynomials.
func lettersByHand(p int64, d int64) []impl.Poly {
	var list []impl.Poly
	for i := range d {
		letter := impl.Term{Value: 1}
		letter.Exps[i] = 1
		list = append(list, built(p, d, letter))
	}
	return list
}

// elementaryByHand adds the products of k different letters.
func elementaryByHand(p int64, d int64, k int64) impl.Poly {
	return symmetricByHand(p, lettersByHand(p, d), int(k)).poly(p, d)
}

// elementariesByHand returns the elementary polynomials of 1 to d.
func elementariesByHand(p int64, d int64) []impl.Poly {
	var list []impl.Poly
	for k := int64(1); k <= d; k++ {
		list = append(list, elementaryByHand(p, d, k))
	}
	return list
}

// completeByHand adds all monomials of a degree.
func completeByHand(p int64, d int64, k int64) impl.Poly {
	sum := table{}
	for _, e := range monomials(d, k) {
		sum[e] = 1
	}
	return sum.poly(p, d)
}

// powersByHand adds the powers k of all letters.
func powersByHand(p int64, d int64, k int64) impl.Poly {
	sum := table{}
	for _, letter := range lettersByHand(p, d) {
		power := table{{}: 1}
		for range k {
			power = power.times(p, tableOf(letter))
		}
		sum = sum.plus(p, 1, power)
	}
	return sum.poly(p, d)
}

// differencesByHand multiplies the differences of each two letters, the first one less the second one.
func differencesByHand(p int64, d int64) impl.Poly {
	whole := table{{}: 1}
	letters := lettersByHand(p, d)
	for j, second := range letters {
		for _, first := range letters[:j] {
			whole = whole.times(p, tableOf(first).plus(p, p-1, tableOf(second)))
		}
	}
	return whole.poly(p, d)
}

// partitionsByHand lists the partitions of n into d parts, of which the first one is at most a number.
func partitionsByHand(n int64, d int64, most int64) [][]int64 {
	if d == 0 {
		if n > 0 {
			return nil
		}
		return [][]int64{{}}
	}
	var list [][]int64
	for part := min(n, most); part >= 0; part-- {
		for _, rest := range partitionsByHand(n-part, d-1, part) {
			list = append(list, append([]int64{part}, rest...))
		}
	}
	return list
}

// forPartitions calls a check with all partitions of numbers up to most into d parts.
func forPartitions(d int64, most int64, check func(list []int64)) {
	for n := int64(0); n <= most; n++ {
		for _, list := range partitionsByHand(n, d, n) {
			check(list)
		}
	}
}

// signByHand counts what stands before something less than itself.
func signByHand(p int64, list []int64) int64 {
	sign := int64(1)
	for j, second := range list {
		for _, first := range list[:j] {
			if first > second {
				sign = p - sign
			}
		}
	}
	return sign
}

// inAllOrders adds the different monomials with exponents in some order.
func inAllOrders(exps []int64) table {
	sum := table{}
	for _, order := range permutations(int64(len(exps))) {
		var e impl.Exps
		for i, from := range order {
			e[i] = byte(exps[from])
		}
		sum[e] = 1
	}
	return sum
}

// inAllOrdersSigned adds the monomials with exponents in all orders, times the signs of these.
func inAllOrdersSigned(p int64, exps []int64) table {
	sum := table{}
	for _, order := range permutations(int64(len(exps))) {
		var e impl.Exps
		for i, to := range order {
			e[to] = byte(exps[i])
		}
		sum = sum.plus(p, signByHand(p, order), table{e: 1})
	}
	return sum
}

// staired returns a partition with d - 1, d - 2, .., 0 added to its numbers.
func staired(list []int64) []int64 {
	var exps []int64
	for i, number := range list {
		exps = append(exps, number+int64(len(list)-1-i))
	}
	return exps
}

// interlaced returns all lists the numbers of which stand between those of a partition.
func interlaced(list []int64) [][]int64 {
	lists := [][]int64{{}}
	for i := 1; i < len(list); i++ {
		var longer [][]int64
		for _, begun := range lists {
			for number := list[i]; number <= list[i-1]; number++ {
				longer = append(longer, append(append([]int64{}, begun...), number))
			}
		}
		lists = longer
	}
	return lists
}

// schurByHand returns the Schur polynomial of a partition by those in one letter less: the last letter has
// the exponent that is missing. It divides nothing.
func schurByHand(p int64, list []int64) table {
	if len(list) == 0 {
		return table{{}: 1}
	}
	sum := table{}
	for _, less := range interlaced(list) {
		var last impl.Exps
		last[len(list)-1] = byte(total(list) - total(less))
		sum = sum.plus(p, 1, schurByHand(p, less).times(p, table{last: 1}))
	}
	return sum
}

// total adds numbers.
func total(list []int64) int64 {
	sum := int64(0)
	for _, number := range list {
		sum += number
	}
	return sum
}

// swapped exchanges two letters of a polynomial.
func swapped(f impl.Poly, i int64, j int64) table {
	numbers := table{}
	for _, s := range f.Terms {
		s.Exps[i], s.Exps[j] = s.Exps[j], s.Exps[i]
		numbers[s.Exps] = s.Value
	}
	return numbers
}

// changesSign reports whether each exchange of two letters multiplies f by a number.
func changesSign(f impl.Poly, number int64) bool {
	want := table{}.plus(f.Prime, number, tableOf(f)).poly(f.Prime, f.Vars)
	for j := range f.Vars {
		for i := range j {
			if !samePoly(swapped(f, i, j).poly(f.Prime, f.Vars), want) {
				return false
			}
		}
	}
	return true
}

// isSymmetricByHand exchanges each two letters.
func isSymmetricByHand(f impl.Poly) bool {
	return changesSign(f, 1)
}

// isAlternatingByHand exchanges each two letters, and looks for equal exponents.
func isAlternatingByHand(f impl.Poly) bool {
	for _, s := range f.Terms {
		for j := range f.Vars {
			for i := range j {
				if s.Exps[i] == s.Exps[j] {
					return false
				}
			}
		}
	}
	return changesSign(f, f.Prime-1)
}

// randomSymmetric returns a symmetric polynomial of at most a degree; about half of its monomial sums are
// not there.
func randomSymmetric(r *rand.Rand, p int64, d int64, most int64) impl.Poly {
	sum := table{}
	forPartitions(d, most, func(list []int64) {
		sum = sum.plus(p, int64(r.Intn(2))*r.Int63n(p), inAllOrders(list))
	})
	return sum.poly(p, d)
}

// randomAlternating returns an alternating polynomial of at most a degree, which is at least that of the
// product of the differences.
func randomAlternating(r *rand.Rand, p int64, d int64, most int64) impl.Poly {
	sum := table{}
	forPartitions(d, most-d*(d-1)/2, func(list []int64) {
		sum = sum.plus(p, int64(r.Intn(2))*r.Int63n(p), inAllOrdersSigned(p, staired(list)))
	})
	return sum.poly(p, d)
}

// changedOnce returns a polynomial with another coefficient of one monomial of at most a degree.
func changedOnce(r *rand.Rand, f impl.Poly, most int64) impl.Poly {
	list := monomials(f.Vars, r.Int63n(most+1))
	numbers := tableOf(f).plus(f.Prime, 1+r.Int63n(f.Prime-1), table{list[r.Intn(len(list))]: 1})
	return numbers.poly(f.Prime, f.Vars)
}

// putInDegree returns the greatest sum of exponents times the degrees of the elementary polynomials, for
// all Terms, 0 without Terms.
func putInDegree(f impl.Poly) int64 {
	most := int64(0)
	for _, s := range f.Terms {
		most = max(most, int64(s.Exps[0])+2*int64(s.Exps[1])+3*int64(s.Exps[2]))
	}
	return most
}

// forLetters calls a check for all primes and all numbers of letters, with random numbers.
func forLetters(seed int64, check func(r *rand.Rand, p int64, d int64)) {
	r := rand.New(rand.NewSource(seed))
	for _, p := range primes {
		for d := int64(1); d <= impl.MaxVars; d++ {
			check(r, p, d)
		}
	}
}

// isSymmetric reports whether f is symmetric.
func isSymmetric(t *testing.T, f impl.Poly) bool {
	t.Helper()
	yes, code := impl.IsSymmetric(f)
	if code != impl.ErrNone {
		t.Fatalf("IsSymmetric(%v): code %d", f, code)
	}
	return yes
}

// isAlternating reports whether f is alternating.
func isAlternating(t *testing.T, f impl.Poly) bool {
	t.Helper()
	yes, code := impl.IsAlternating(f)
	if code != impl.ErrNone {
		t.Fatalf("IsAlternating(%v): code %d", f, code)
	}
	return yes
}

// symmetricOf returns the symmetric polynomial that x tells, and whether there is one: above the bound for
// substitutions it is refused.
func symmetricOf(t *testing.T, x impl.Poly) (impl.Poly, bool) {
	t.Helper()
	f, code := impl.SymmetricOf(x)
	if putInDegree(x) > impl.MaxDegree {
		wantNoPoly(t, fmt.Sprintf("SymmetricOf(%v)", x), f, code, impl.ErrLimit)
		return f, false
	}
	if code != impl.ErrNone {
		t.Fatalf("SymmetricOf(%v): code %d", x, code)
	}
	return f, true
}

// vandermonde returns the Vandermonde polynomial.
func vandermonde(t *testing.T, p int64, d int64) impl.Poly {
	t.Helper()
	f, code := impl.VandermondePoly(p, d)
	if code != impl.ErrNone {
		t.Fatalf("VandermondePoly(%d, %d): code %d", p, d, code)
	}
	return f
}

// quotient returns the quotient of an alternating polynomial.
func quotient(t *testing.T, f impl.Poly) impl.Poly {
	t.Helper()
	q, code := impl.AlternatingQuotient(f)
	if code != impl.ErrNone {
		t.Fatalf("AlternatingQuotient(%v): code %d", f, code)
	}
	return q
}

// told returns the polynomial that tells a symmetric one.
func told(t *testing.T, f impl.Poly) impl.Poly {
	t.Helper()
	x, code := impl.TellSymmetric(f)
	if code != impl.ErrNone {
		t.Fatalf("TellSymmetric(%v): code %d", f, code)
	}
	return x
}

// schur returns the Schur polynomial of a partition.
func schur(t *testing.T, p int64, list []int64) impl.Poly {
	t.Helper()
	f, code := impl.SchurPoly(p, list)
	if code != impl.ErrNone {
		t.Fatalf("SchurPoly(%d, %v): code %d", p, list, code)
	}
	return f
}
