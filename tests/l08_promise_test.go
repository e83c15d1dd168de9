package tests

import (
	"fmt"
	"math/rand"
	"slices"
	"testing"

	"loop.example/g01285/impl"
)

// TestPromise8Told tells random symmetric polynomials, of all degrees: what tells them is made of elementary
// polynomials by hand, and they come back.
func TestPromise8Told(t *testing.T) {
	forLetters(81, func(r *rand.Rand, p int64, d int64) {
		for most := int64(0); most <= impl.MaxDegree; most++ {
			f := randomSymmetric(r, p, d, most)
			x := told(t, f)
			if !impl.IsPoly(x) || x.Vars != d || x.Prime != p || putInDegree(x) != max(topDegree(f), 0) {
				t.Fatalf("TellSymmetric(%v) = %v", f, x)
			}
			wantPoly(t, fmt.Sprintf("what %v tells", x), substituted(x, elementariesByHand(p, d)), impl.ErrNone, f)
			back, code := impl.SymmetricOf(x)
			wantPoly(t, fmt.Sprintf("SymmetricOf(%v)", x), back, code, f)
		}
	})
}

// TestPromise8Telling takes random polynomials that tell symmetric ones; those above the bound are refused.
func TestPromise8Telling(t *testing.T) {
	found, refused := 0, 0
	forLetters(82, func(r *rand.Rand, p int64, d int64) {
		for range 30 {
			x := randomPoly(r, p, d, r.Int63n(1+impl.MaxDegree*2/(d+1)))
			f, ok := symmetricOf(t, x)
			if !ok {
				refused++
				continue
			}
			found++
			wantPoly(t, fmt.Sprintf("SymmetricOf(%v)", x), f, impl.ErrNone, substituted(x, elementariesByHand(p, d)))
			if !isSymmetric(t, f) || !isSymmetricByHand(f) {
				t.Fatalf("SymmetricOf(%v) = %v is not symmetric", x, f)
			}
			wantPoly(t, fmt.Sprintf("TellSymmetric(%v)", f), told(t, f), impl.ErrNone, x)
		}
	})
	if found < 300 || refused < 50 {
		t.Errorf("%d polynomials are told, and %d refused", found, refused)
	}
}

// TestPromise8Quotients divides random alternating polynomials of all degrees: the quotients are symmetric, and
// times the product of the differences of letters they are the alternating ones.
func TestPromise8Quotients(t *testing.T) {
	forLetters(83, func(r *rand.Rand, p int64, d int64) {
		divisor := vandermonde(t, p, d)
		for most := d * (d - 1) / 2; most <= impl.MaxDegree; most++ {
			for range 3 {
				f := randomAlternating(r, p, d, most)
				q := quotient(t, f)
				if !impl.IsPoly(q) || q.Vars != d || q.Prime != p || !isSymmetric(t, q) || !isSymmetricByHand(q) {
					t.Fatalf("AlternatingQuotient(%v) = %v", f, q)
				}
				wantPoly(t, "quotient times differences", multiplied(f, []impl.Poly{q, differencesByHand(p, d)}), impl.ErrNone, f)
				product, code := impl.MultiplyPolys(q, divisor)
				wantPoly(t, "quotient times Vandermonde polynomial", product, code, f)
			}
		}
	})
}

// TestPromise8Products multiplies random symmetric polynomials by the Vandermonde polynomial, and divides
// again.
func TestPromise8Products(t *testing.T) {
	forLetters(84, func(r *rand.Rand, p int64, d int64) {
		divisor := vandermonde(t, p, d)
		for most := int64(0); most <= impl.MaxDegree-d*(d-1)/2; most++ {
			q := randomSymmetric(r, p, d, most)
			f := product(t, q, divisor)
			if !isAlternating(t, f) || !isAlternatingByHand(f) {
				t.Fatalf("%v times the Vandermonde polynomial is not alternating", q)
			}
			wantPoly(t, fmt.Sprintf("AlternatingQuotient(%v)", f), quotient(t, f), impl.ErrNone, q)
		}
	})
}

// TestPromise14Complete finds complete polynomials as Schur polynomials of one part, wherever there are both.
func TestPromise14Complete(t *testing.T) {
	forLetters(85, func(_ *rand.Rand, p int64, d int64) {
		for k := int64(0); k <= impl.MaxDegree; k++ {
			complete, code := impl.CompletePoly(p, d, k)
			wantPoly(t, fmt.Sprintf("CompletePoly(%d, %d, %d)", p, d, k), complete, code, completeByHand(p, d, k))
			list := begun(int(d), k)
			f, code := impl.SchurPoly(p, list)
			if k+d*(d-1)/2 > impl.MaxDegree {
				wantNoPoly(t, fmt.Sprintf("SchurPoly(%d, %v)", p, list), f, code, impl.ErrLimit)
				continue
			}
			wantPoly(t, fmt.Sprintf("SchurPoly(%d, %v)", p, list), f, code, complete)
		}
	})
}

// TestSchurPolysByHand finds all Schur polynomials by those in one letter less, and multiplies them to
// alternants.
func TestSchurPolysByHand(t *testing.T) {
	forLetters(86, func(_ *rand.Rand, p int64, d int64) {
		forPartitions(d, impl.MaxDegree-d*(d-1)/2, func(list []int64) {
			f := schur(t, p, list)
			wantPoly(t, fmt.Sprintf("SchurPoly(%d, %v)", p, list), f, impl.ErrNone, schurByHand(p, list).poly(p, d))
			alternant := inAllOrdersSigned(p, staired(list)).poly(p, d)
			wantPoly(t, fmt.Sprintf("the quotient for %v", list), quotient(t, alternant), impl.ErrNone, f)
			if !isSymmetric(t, f) || !isAlternating(t, alternant) {
				t.Fatalf("%v is not symmetric, or %v not alternating", f, alternant)
			}
		})
	})
}

// TestElementariesAreSchurPolys takes partitions of ones.
func TestElementariesAreSchurPolys(t *testing.T) {
	forLetters(87, func(_ *rand.Rand, p int64, d int64) {
		for k := int64(0); k <= d; k++ {
			f, code := impl.ElementaryPoly(p, d, k)
			wantPoly(t, fmt.Sprintf("ElementaryPoly(%d, %d, %d)", p, d, k), f, code, schur(t, p, begun(int(d), row(int(k), 1)...)))
		}
	})
}

// TestMonomialSumsByHand takes all lists of exponents, in all orders.
func TestMonomialSumsByHand(t *testing.T) {
	forLetters(88, func(_ *rand.Rand, p int64, d int64) {
		for n := int64(0); n <= impl.MaxDegree; n++ {
			for _, e := range monomials(d, n) {
				var exps []int64
				for _, exponent := range e[:d] {
					exps = append(exps, int64(exponent))
				}
				f, code := impl.MonomialSum(p, exps)
				wantPoly(t, fmt.Sprintf("MonomialSum(%d, %v)", p, exps), f, code, inAllOrders(exps).poly(p, d))
				if !isSymmetric(t, f) {
					t.Fatalf("MonomialSum(%d, %v) = %v is not symmetric", p, exps, f)
				}
			}
		}
	})
}

// TestPartitionsMakeMonomialSums adds up the monomial sums of all partitions: each monomial is in exactly one
// of them.
func TestPartitionsMakeMonomialSums(t *testing.T) {
	forLetters(89, func(_ *rand.Rand, p int64, d int64) {
		for n := int64(0); n <= impl.MaxDegree; n++ {
			lists, code := impl.PartitionsOf(n, d)
			wantLists(t, fmt.Sprintf("PartitionsOf(%d, %d)", n, d), lists, code, partitionsByHand(n, d, n), impl.ErrNone)
			if !slices.IsSortedFunc(lists, func(a, b []int64) int { return slices.Compare(b, a) }) {
				t.Fatalf("PartitionsOf(%d, %d) = %v does not descend", n, d, lists)
			}
			all := built(p, d)
			for _, list := range lists {
				f, code := impl.MonomialSum(p, list)
				if code != impl.ErrNone {
					t.Fatalf("MonomialSum(%d, %v): code %d", p, list, code)
				}
				all = sum(t, all, f, 1)
			}
			wantPoly(t, fmt.Sprintf("all monomial sums of %d, %d", n, d), all, impl.ErrNone, completeByHand(p, d, n))
		}
	})
}

// TestKindsByHand exchanges the letters of random polynomials that are symmetric, alternating, both together,
// changed at one place, or anything.
func TestKindsByHand(t *testing.T) {
	symmetric, alternating, neither := 0, 0, 0
	forLetters(90, func(r *rand.Rand, p int64, d int64) {
		for range 40 {
			most := 3 + r.Int63n(impl.MaxDegree-2)
			f, g := randomSymmetric(r, p, d, most), randomAlternating(r, p, d, most)
			for _, x := range []impl.Poly{
				f, g, sum(t, f, g, 1), changedOnce(r, f, most), changedOnce(r, g, most), randomPoly(r, p, d, r.Int63n(3)),
			} {
				yes, no := isSymmetricByHand(x), isAlternatingByHand(x)
				if isSymmetric(t, x) != yes || isAlternating(t, x) != no {
					t.Fatalf("%v: symmetric %v, alternating %v", x, !yes, !no)
				}
				told, code := impl.TellSymmetric(x)
				if !yes {
					wantNoPoly(t, fmt.Sprintf("TellSymmetric(%v)", x), told, code, impl.ErrState)
				}
				quotient, code := impl.AlternatingQuotient(x)
				if !no {
					wantNoPoly(t, fmt.Sprintf("AlternatingQuotient(%v)", x), quotient, code, impl.ErrState)
				}
				switch {
				case yes:
					symmetric++
				case no:
					alternating++
				default:
					neither++
				}
			}
		}
	})
	if symmetric < 500 || alternating < 300 || neither < 500 {
		t.Errorf("%d polynomials are symmetric, %d alternating, %d neither", symmetric, alternating, neither)
	}
}

// TestSymmetricPolysAreInvariant holds them against the invariants of the group of all exchanges.
func TestSymmetricPolysAreInvariant(t *testing.T) {
	forLetters(91, func(r *rand.Rand, p int64, d int64) {
		g := named(t, []string{"point", "swap", "symmetric"}[d-1], p)
		for most := int64(0); most <= 8; most++ {
			f := randomSymmetric(r, p, d, most)
			for _, x := range []impl.Poly{f, changedOnce(r, f, most), randomPoly(r, p, d, most)} {
				yes, code := impl.IsInvariant(g, x)
				wantBool(t, fmt.Sprintf("IsInvariant(.., %v)", x), yes, code, isSymmetric(t, x))
			}
		}
	})
}

// TestNewtonSums holds power sums, complete and elementary polynomials against each other: k times the complete
// polynomial of k is the sum of power sums times complete polynomials, and complete times elementary ones,
// with changing signs, add up to 0.
func TestNewtonSums(t *testing.T) {
	forLetters(92, func(_ *rand.Rand, p int64, d int64) {
		calls := numberedCalls()
		poly := func(name string, k int64) impl.Poly {
			f, code := calls[name].call(p, d, k)
			if code != impl.ErrNone {
				t.Fatalf("%s(%d, %d, %d): code %d", name, p, d, k, code)
			}
			return f
		}
		for k := int64(1); k <= impl.MaxDegree; k++ {
			powers, mixed, sign := built(p, d), built(p, d), int64(1)
			for i := int64(0); i <= k; i++ {
				complete := poly("CompletePoly", k-i)
				if i > 0 {
					powers = sum(t, powers, product(t, poly("PowerSumPoly", i), complete), 1)
				}
				if i <= d {
					mixed = sum(t, mixed, product(t, poly("ElementaryPoly", i), complete), sign)
				}
				sign = p - sign
			}
			wantPoly(t, fmt.Sprintf("power sums for %d, %d, %d", p, d, k), powers, impl.ErrNone, sum(t, built(p, d), poly("CompletePoly", k), k%p))
			wantPoly(t, fmt.Sprintf("signed products for %d, %d, %d", p, d, k), mixed, impl.ErrNone, built(p, d))
		}
	})
}

// TestToldProducts tells products and sums: they are told by the products and sums of what tells the factors.
func TestToldProducts(t *testing.T) {
	forLetters(93, func(r *rand.Rand, p int64, d int64) {
		for most := int64(1); most <= impl.MaxDegree/2; most++ {
			f, g := randomSymmetric(r, p, d, most), randomSymmetric(r, p, d, impl.MaxDegree-most)
			wantPoly(t, fmt.Sprintf("TellSymmetric of %v times %v", f, g), told(t, product(t, f, g)), impl.ErrNone, product(t, told(t, f), told(t, g)))
			wantPoly(t, fmt.Sprintf("TellSymmetric of %v and %v", f, g), told(t, sum(t, f, g, p-1)), impl.ErrNone, sum(t, told(t, f), told(t, g), p-1))
		}
	})
}

// TestSymmetricAtOnce asks from several goroutines: results depend on nothing but the arguments.
func TestSymmetricAtOnce(t *testing.T) {
	r := rand.New(rand.NewSource(94))
	f, g := randomSymmetric(r, 13, 3, impl.MaxDegree), randomAlternating(r, 13, 3, impl.MaxDegree)
	wantSameAtOnce(t, func() string {
		told, a := impl.TellSymmetric(f)
		back, b := impl.SymmetricOf(told)
		quotient, c := impl.AlternatingQuotient(g)
		schur, d := impl.SchurPoly(13, []int64{4, 3, 2})
		lists, e := impl.PartitionsOf(impl.MaxDegree, 3)
		return fmt.Sprint(told, a, back, b, quotient, c, schur, d, lists, e)
	})
}
