package tests

import (
	"math/rand"
	"slices"
	"testing"

	"loop.example/g01285/impl"
)

// twoPoints returns two points none of whose numbers is 0, but for the primes 2 and 3.
func twoPoints(p int64, d int64) [][]int64 {
	return [][]int64{[]int64{1, 2 % p, 4 % p}[:d], []int64{p - 1, 1, 3 % p}[:d]}
}

// wantInvariant checks that all Elements leave f: by the program, by values at points, and for small
// degrees by leading it apart from the program.
func wantInvariant(t *testing.T, what string, g impl.Group, f impl.Poly) {
	t.Helper()
	if yes, code := impl.IsInvariant(g, f); !yes || code != impl.ErrNone {
		t.Fatalf("%s for %v: IsInvariant(%v) = %v, %d", what, g, f, yes, code)
	}
	for _, point := range twoPoints(g.Prime, g.Size) {
		for _, x := range g.Elements {
			if value(t, f, point) != value(t, f, led(g.Prime, g.Size, x, point)) {
				t.Fatalf("%s for %v: %v has another value where %v leads %v", what, g, f, x, point)
			}
		}
	}
	if topDegree(f) > 3 {
		return
	}
	for _, x := range g.Elements {
		if !samePoly(turned(x, f), f) {
			t.Fatalf("%s for %v: %v leads %v elsewhere", what, g, x, f)
		}
	}
}

// lead returns the polynomial to which a matrix leads f.
func lead(t *testing.T, m impl.Matrix, f impl.Poly) impl.Poly {
	t.Helper()
	there, code := impl.LeadPoly(m, f)
	if code != impl.ErrNone || !impl.IsPoly(there) || topDegree(there) != topDegree(f) {
		t.Fatalf("LeadPoly(%v, %v) = %v, %d", m, f, there, code)
	}
	return there
}

// TestLeadPolyRules holds what products of matrices, sums and products of polynomials are led to
// against each other.
func TestLeadPolyRules(t *testing.T) {
	r := rand.New(rand.NewSource(12))
	for _, p := range primes {
		for d := int64(1); d <= 3; d++ {
			for most := int64(0); most <= 6; most += 2 {
				g, h := randomMatrix(r, p, d), randomMatrix(r, p, d)
				x, y := randomPoly(r, p, d, most), randomPoly(r, p, d, 6)
				if a, b := lead(t, timesMatrix(p, d, g, h), x), lead(t, g, lead(t, h, x)); !samePoly(a, b) {
					t.Fatalf("%v times %v leads %v to %v, want %v", g, h, x, a, b)
				}
				if a, b := lead(t, g, product(t, x, y)), product(t, lead(t, g, x), lead(t, g, y)); !samePoly(a, b) {
					t.Fatalf("%v leads the product of %v and %v to %v, want %v", g, x, y, a, b)
				}
				if a, b := lead(t, g, sum(t, x, y, p-1)), sum(t, lead(t, g, x), lead(t, g, y), p-1); !samePoly(a, b) {
					t.Fatalf("%v leads the difference of %v and %v to %v, want %v", g, x, y, a, b)
				}
				if a := lead(t, unitOf(d), x); !samePoly(a, x) {
					t.Fatalf("the unit leads %v to %v", x, a)
				}
			}
		}
	}
}

// TestPromise3Sums makes orbits, stabilisers, orbit sums and transfers apart from the program, and
// finds the sums invariant.
func TestPromise3Sums(t *testing.T) {
	forActions(t, func(g impl.Group, f impl.Poly) {
		all := turnedByAll(g, f)
		wantOrbit := withoutDoubles(all)
		var wantStabiliser []int64
		for i, x := range all {
			if samePoly(x, f) {
				wantStabiliser = append(wantStabiliser, int64(i))
			}
		}
		orbit, code := impl.OrbitOfPoly(g, f)
		wantPolys(t, "OrbitOfPoly", orbit, code, wantOrbit, impl.ErrNone)
		stabiliser, code := impl.StabiliserOfPoly(g, f)
		wantNumbers(t, "StabiliserOfPoly", stabiliser, code, wantStabiliser, impl.ErrNone)
		if len(orbit)*len(stabiliser) != len(g.Elements) || len(orbit) > impl.MaxOrbit {
			t.Fatalf("%v, %v: %d polynomials and %d Elements that leave it", g, f, len(orbit), len(stabiliser))
		}
		if yes, code := impl.IsInvariant(g, f); yes != (len(wantOrbit) == 1) || code != impl.ErrNone {
			t.Fatalf("IsInvariant(%v, %v) = %v, %d", g, f, yes, code)
		}
		whole, code := impl.OrbitSum(g, f)
		wantPoly(t, "OrbitSum", whole, code, summed(f, wantOrbit, 1))
		wantInvariant(t, "OrbitSum", g, whole)
		transfer, code := impl.TransferOf(g, f)
		wantPoly(t, "TransferOf", transfer, code, summed(f, all, 1))
		wantInvariant(t, "TransferOf", g, transfer)
		// Each polynomial of the orbit arises as often as there are Elements in the stabiliser.
		wantPoly(t, "TransferOf by the orbit", transfer, code, summed(f, []impl.Poly{whole}, int64(len(stabiliser))))
	})
}

// TestOrbitsPart finds in the orbit of each polynomial of an orbit the same polynomials.
func TestOrbitsPart(t *testing.T) {
	r := rand.New(rand.NewSource(13))
	manyGroups(t, func(g impl.Group) {
		orbit, code := impl.OrbitOfPoly(g, randomPoly(r, g.Prime, g.Size, 2))
		if code != impl.ErrNone {
			t.Fatalf("OrbitOfPoly: code %d", code)
		}
		f := orbit[r.Intn(len(orbit))]
		again, code := impl.OrbitOfPoly(g, f)
		both := withoutDoubles(slices.Concat(orbit, again))
		if code != impl.ErrNone || len(again) != len(orbit) || len(both) != len(orbit) {
			t.Fatalf("OrbitOfPoly(%v, %v) = %v, %d, want those of %v", g, f, again, code, orbit)
		}
	})
}

// valueOfSymmetric returns the sum of all products of k different numbers of a list, modulo p.
func valueOfSymmetric(p int64, list []int64, k int64) int64 {
	sums := make([]int64, k+1)
	sums[0] = 1
	for _, number := range list {
		for j := k; j > 0; j-- {
			sums[j] = (sums[j] + sums[j-1]*number) % p
		}
	}
	return sums[k]
}

// checkSymmetric checks all symmetric functions of an orbit: in the list by hand if it is short, or
// by values at points.
func checkSymmetric(t *testing.T, g impl.Group, f impl.Poly, orbit []impl.Poly) {
	t.Helper()
	m := int64(len(orbit))
	for k := int64(-1); k <= m+1; k++ {
		x, code := impl.SymmetricFunction(g, f, k)
		switch {
		case k < 0 || k > m:
			wantNoPoly(t, "SymmetricFunction", x, code, impl.ErrRange)
			continue
		case k*topDegree(f) > impl.MaxDegree:
			wantNoPoly(t, "SymmetricFunction", x, code, impl.ErrLimit)
			continue
		case m <= 6:
			want := symmetricByHand(g.Prime, orbit, int(k)).poly(g.Prime, g.Size)
			wantPoly(t, "SymmetricFunction", x, code, want)
		}
		if code != impl.ErrNone || !impl.IsPoly(x) {
			t.Fatalf("SymmetricFunction(%v, %v, %d) = %v, %d", g, f, k, x, code)
		}
		for _, point := range twoPoints(g.Prime, g.Size) {
			var values []int64
			for _, y := range orbit {
				values = append(values, value(t, y, point))
			}
			wantNumber(t, "value of a symmetric function", value(t, x, point), code, valueOfSymmetric(g.Prime, values, k), impl.ErrNone)
		}
		wantInvariant(t, "SymmetricFunction", g, x)
	}
}

// checkPowerSums checks all power sums of an orbit.
func checkPowerSums(t *testing.T, g impl.Group, f impl.Poly, orbit []impl.Poly) {
	t.Helper()
	powers := make([]impl.Poly, len(orbit))
	for i := range powers {
		powers[i] = built(g.Prime, g.Size, term(1))
	}
	for k := int64(0); k <= impl.MaxDegree+1; k++ {
		x, code := impl.PowerSum(g, f, k)
		switch {
		case k < 1 || k > impl.MaxDegree:
			wantNoPoly(t, "PowerSum", x, code, impl.ErrRange)
			continue
		case k*topDegree(f) > impl.MaxDegree:
			wantNoPoly(t, "PowerSum", x, code, impl.ErrLimit)
			continue
		}
		for i, y := range orbit {
			powers[i] = multiplied(f, []impl.Poly{powers[i], y})
		}
		wantPoly(t, "PowerSum", x, code, summed(f, powers, 1))
		wantInvariant(t, "PowerSum", g, x)
	}
}

// TestPromise3Products makes the other symmetric functions of orbits, and finds them invariant; it
// takes the polynomials of small degrees for which some are within MaxDegree.
func TestPromise3Products(t *testing.T) {
	r := rand.New(rand.NewSource(14))
	count := 0
	manyGroups(t, func(g impl.Group) {
		p, d := g.Prime, g.Size
		for i, f := range []impl.Poly{built(p, d), built(p, d, term(p-1)), randomPoly(r, p, d, 1), randomPoly(r, p, d, 3)} {
			orbit := withoutDoubles(turnedByAll(g, f))
			x, code := impl.OrbitProduct(g, f)
			if int64(len(orbit))*topDegree(f) > impl.MaxDegree {
				wantNoPoly(t, "OrbitProduct", x, code, impl.ErrLimit)
			} else {
				wantPoly(t, "OrbitProduct", x, code, multiplied(f, orbit))
				wantInvariant(t, "OrbitProduct", g, x)
			}
			// These take long: for the polynomials that are not constant some groups are enough.
			count++
			if i < 2 || count%11 == 0 {
				checkSymmetric(t, g, f, orbit)
				checkPowerSums(t, g, f, orbit)
			}
		}
	})
}

// TestPromise3Reynolds divides transfers by hand: what arises is invariant, and invariants are left,
// also as factors.
func TestPromise3Reynolds(t *testing.T) {
	r := rand.New(rand.NewSource(15))
	forActions(t, func(g impl.Group, f impl.Poly) {
		p := g.Prime
		x, code := impl.ReynoldsOf(g, f)
		if int64(len(g.Elements))%p == 0 {
			wantNoPoly(t, "ReynoldsOf", x, code, impl.ErrState)
			return
		}
		wantInvariant(t, "ReynoldsOf", g, x)
		transfer := summed(f, turnedByAll(g, f), 1)
		wantPoly(t, "ReynoldsOf times the order", summed(f, []impl.Poly{x}, int64(len(g.Elements))), code, transfer)
		again, code := impl.ReynoldsOf(g, x)
		wantPoly(t, "ReynoldsOf an invariant", again, code, x)
		other := randomPoly(r, p, g.Size, 2)
		left, code := impl.ReynoldsOf(g, product(t, x, other))
		right, _ := impl.ReynoldsOf(g, other)
		wantPoly(t, "ReynoldsOf a multiple of an invariant", left, code, product(t, x, right))
	})
}

// checkCharacter holds a character against the products of the Elements: it makes products of them.
func checkCharacter(t *testing.T, g impl.Group, character []int64) {
	t.Helper()
	for i, x := range g.Elements {
		for j, y := range g.Elements {
			k := slices.Index(g.Elements, timesMatrix(g.Prime, g.Size, x, y))
			if character[k] != character[i]*character[j]%g.Prime {
				t.Fatalf("%v is no character of %v", character, g)
			}
		}
	}
}

// TestCharactersOfProducts multiplies semi-invariants: the characters of products are products. Two
// of those that forActions makes have powers of the determinants as their characters.
func TestCharactersOfProducts(t *testing.T) {
	var before impl.Group
	var former impl.Poly
	var formerCharacter []int64
	found := 0
	forActions(t, func(g impl.Group, f impl.Poly) {
		want, ok := characterByHand(g, f)
		character, code := impl.CharacterOf(g, f)
		if !ok {
			wantNumbers(t, "CharacterOf", character, code, nil, impl.ErrState)
			return
		}
		wantNumbers(t, "CharacterOf", character, code, want, impl.ErrNone)
		if sameGroup(before, g) {
			found++
			var products []int64
			for i, k := range character {
				products = append(products, k*formerCharacter[i]%g.Prime)
			}
			character, code = impl.CharacterOf(g, product(t, f, former))
			wantNumbers(t, "CharacterOf a product", character, code, products, impl.ErrNone)
		} else {
			checkCharacter(t, g, character)
		}
		before, former, formerCharacter = g, f, want
	})
	if found < 500 {
		t.Errorf("%d products of semi-invariants", found)
	}
}

// TestCharactersByDeterminants makes polynomials with the determinants as their characters.
func TestCharactersByDeterminants(t *testing.T) {
	r := rand.New(rand.NewSource(16))
	found := 0
	manyGroups(t, func(g impl.Group) {
		for k := range 3 {
			f := leant(g, randomPoly(r, g.Prime, g.Size, 3), k)
			character, code := impl.CharacterOf(g, f)
			if len(f.Terms) == 0 {
				wantNumbers(t, "CharacterOf 0", character, code, nil, impl.ErrState)
				continue
			}
			var want []int64
			for _, x := range g.Elements {
				power := int64(1)
				for range k {
					power = power * opened(g.Size, x).determinant(g.Prime) % g.Prime
				}
				want = append(want, power)
			}
			found++
			wantNumbers(t, "CharacterOf", character, code, want, impl.ErrNone)
		}
	})
	if found < 300 {
		t.Errorf("%d semi-invariants", found)
	}
}
