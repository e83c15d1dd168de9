package tests

import (
	"fmt"
	"math/rand"
	"slices"
	"testing"

	"loop.example/g01285/impl"
)

// asManyForms calls a check with random forms, as many as letters, for all primes; no degree that is asked of
// them is too great.
func asManyForms(check func(r *rand.Rand, list []impl.Poly)) {
	r := rand.New(rand.NewSource(72))
	for _, p := range primes {
		for d := int64(1); d <= 3; d++ {
			for range 40 {
				list := randomForms(r, p, d, int(d), 12/d)
				if askedByHand(list) <= impl.MaxBound {
					check(r, list)
				}
			}
		}
	}
}

// checkParameters checks what holds for all parameters: they are free, their rest numbers are those that the
// degrees tell, have the product of the degrees as their sum, and are 0 from the degree that is asked on.
func checkParameters(t *testing.T, list []impl.Poly) {
	t.Helper()
	for _, n := range []int64{1, 5, impl.MaxBound} {
		yes, code := impl.AreFree(list, n)
		wantBool(t, asked("AreFree", list, n), yes, code, true)
	}
	numbers := restNumbers(t, list, impl.MaxBound)
	sum := int64(0)
	for n, number := range numbers {
		sum += number
		if int64(n) >= askedByHand(list) && number != 0 {
			t.Fatalf("RestNumbers(%v) = %v", list, numbers)
		}
	}
	wantNumber(t, fmt.Sprintf("the sum of the rest numbers of %v", list), sum, impl.ErrNone, degreeProduct(list), impl.ErrNone)
	want := restSeries(degreesOf(list), impl.MaxBound)
	wantNumbers(t, asked("RestNumbers", list, impl.MaxBound), numbers, impl.ErrNone, want, impl.ErrNone)
}

// TestPromise7Parameters finds parameters free, with the rest numbers that their degrees tell; what are no
// parameters has a rest in all degrees.
func TestPromise7Parameters(t *testing.T) {
	found, others := 0, 0
	asManyForms(func(_ *rand.Rand, list []impl.Poly) {
		if areParameters(t, list) {
			found++
			checkParameters(t, list)
			return
		}
		others++
		if numbers := restNumbers(t, list, impl.MaxBound); slices.Contains(numbers, 0) {
			t.Fatalf("%v are no parameters, and have the rest numbers %v", list, numbers)
		}
	})
	if found < 200 || others < 100 {
		t.Errorf("%d parameters, %d others", found, others)
	}
}

// TestPromise7Invariants finds parameters among invariants, those of modular groups too.
func TestPromise7Invariants(t *testing.T) {
	forParameters(t, func(_ impl.Group, list []impl.Poly) { checkParameters(t, list) })
	for _, p := range primes {
		checkParameters(t, splitPolys(t, p, 3, "1x+1y+1z 1xy+1xz+1yz 1xyz"))
		checkParameters(t, splitPolys(t, p, 2, "1x+1y 1xy"))
	}
	for _, size := range dicksonSizes() {
		var list []impl.Poly
		for i := range size[1] {
			list = append(list, dickson(t, size[0], size[1], i))
		}
		if askedByHand(list) <= impl.MaxBound {
			checkParameters(t, list)
		}
	}
}

// TestAreParametersByHand multiplies by all monomials of the degree that is asked.
func TestAreParametersByHand(t *testing.T) {
	asManyForms(func(_ *rand.Rand, list []impl.Poly) {
		p, d := list[0].Prime, list[0].Vars
		yes, code := impl.AreParameters(list)
		wantBool(t, fmt.Sprintf("AreParameters(%v)", list), yes, code, restByHand(p, d, list, askedByHand(list)) == 0)
	})
}

// TestRestNumbersByHand multiplies by all monomials.
func TestRestNumbersByHand(t *testing.T) {
	forLists(func(r *rand.Rand, list []impl.Poly) {
		p, d := list[0].Prime, list[0].Vars
		numbers := restNumbers(t, list, impl.MaxBound)
		for _, n := range []int64{r.Int63n(4), r.Int63n(8), r.Int63n(impl.MaxBound + 1)} {
			want := restByHand(p, d, list, n)
			wantNumber(t, asked("RestNumbers at", list, n), numbers[n], impl.ErrNone, want, impl.ErrNone)
			number, code := impl.RestNumber(list, n)
			wantNumber(t, asked("RestNumber", list, n), number, code, want, impl.ErrNone)
			lesser := restNumbers(t, list, n)
			wantNumbers(t, asked("RestNumbers", list, n), lesser, impl.ErrNone, numbers[:n+1], impl.ErrNone)
		}
	})
}

// TestRestNumbersOfOthers puts a multiple to a list, and takes it in another order: rest numbers stay. With
// a polynomial that is no multiple there is less rest in its degree.
func TestRestNumbersOfOthers(t *testing.T) {
	fewer := 0
	forLists(func(r *rand.Rand, list []impl.Poly) {
		if len(list) == impl.MaxList {
			return
		}
		p, d := list[0].Prime, list[0].Vars
		numbers := restNumbers(t, list, impl.MaxBound)
		f := list[r.Intn(len(list))]
		n := topDegree(f) + r.Int63n(3)
		more := append(slices.Clone(list), multiplied(f, []impl.Poly{f, randomForm(r, p, d, n-topDegree(f))}))
		r.Shuffle(len(more), func(i, j int) { more[i], more[j] = more[j], more[i] })
		wantNumbers(t, asked("RestNumbers", more, impl.MaxBound), restNumbers(t, more, impl.MaxBound), impl.ErrNone, numbers, impl.ErrNone)
		g := randomForm(r, p, d, n)
		less := restNumbers(t, append(slices.Clone(list), g), impl.MaxBound)
		if want := isMultiple(t, list, g); want != (less[n] == numbers[n]) || want != slices.Equal(less, numbers) {
			t.Fatalf("with %v the rest numbers of %v are %v instead of %v", g, list, less, numbers)
		} else if !want {
			fewer++
		}
	})
	if fewer < 50 {
		t.Errorf("%d polynomials are no multiples", fewer)
	}
}

// TestIsMultipleByRanks asks for random polynomials, and for sums of multiples: with one that is no multiple
// there is a dimension more.
func TestIsMultipleByRanks(t *testing.T) {
	found, missing := 0, 0
	forLists(func(r *rand.Rand, list []impl.Poly) {
		p, d := list[0].Prime, list[0].Vars
		for range 3 {
			n := 1 + r.Int63n(7)
			rows := monomialMultiples(p, d, list, n)
			f := randomForm(r, p, d, n)
			if multiples := polysByHand(p, d, n, rows); len(multiples) > 0 && r.Intn(2) == 0 {
				f = mixed(r, multiples)
				if !isMultiple(t, list, f) {
					t.Fatalf("IsMultiple(%v, %v) = false", list, f)
				}
			}
			rank := rankByHand(p, slices.Clone(rows))
			want := rankByHand(p, append(rows, rowByHand(f, n))) == rank
			if isMultiple(t, list, f) != want {
				t.Fatalf("IsMultiple(%v, %v) = %v", list, f, !want)
			}
			if want {
				found++
			} else {
				missing++
			}
		}
	})
	if found < 300 || missing < 80 {
		t.Errorf("%d polynomials are multiples, %d are not", found, missing)
	}
}

// TestAreFreeByHand multiplies out all products of random lists, and counts products by FreeNumber.
func TestAreFreeByHand(t *testing.T) {
	free, bound := 0, 0
	forLists(func(r *rand.Rand, list []impl.Poly) {
		p, d := list[0].Prime, list[0].Vars
		for n := range int64(impl.MaxBound + 1) {
			number, code := impl.FreeNumber(list, n)
			wantNumber(t, asked("FreeNumber", list, n), number, code, waysByHand(degreesOf(list), n), impl.ErrNone)
		}
		n := 1 + r.Int63n(5)
		if waysByHand(degreesOf(list), n) > 60 {
			return
		}
		want := areFreeByHand(p, d, list, n)
		yes, code := impl.AreFree(list, n)
		wantBool(t, asked("AreFree", list, n), yes, code, want)
		if want {
			free++
		} else {
			bound++
		}
	})
	if free < 50 || bound < 50 {
		t.Errorf("%d lists are free, %d are not", free, bound)
	}
}

// TestAreFreeByProducts counts products by their exponents, and what they generate: a list is free as long as
// these are as many.
func TestAreFreeByProducts(t *testing.T) {
	forLists(func(_ *rand.Rand, list []impl.Poly) {
		want := true
		for n := int64(1); n <= 8; n++ {
			if waysByHand(degreesOf(list), n) > 400 {
				return
			}
			number, code := impl.FreeNumber(list, n)
			wantNumber(t, asked("FreeNumber", list, n), number, code, int64(len(exponents(t, list, n))), impl.ErrNone)
			want = want && number == int64(len(generated(t, list, n)))
			yes, code := impl.AreFree(list, n)
			wantBool(t, asked("AreFree", list, n), yes, code, want)
		}
	})
}

// TestPromise15Secondaries adds up secondary degrees, and finds as many secondary invariants as they tell.
func TestPromise15Secondaries(t *testing.T) {
	found, refused, several := 0, 0, 0
	forParameters(t, func(g impl.Group, list []impl.Poly) {
		what := fmt.Sprintf("(%v, %v)", g, list)
		number, code := impl.SecondaryNumber(g, list)
		wantNumber(t, "SecondaryNumber"+what, number, code, degreeProduct(list)/int64(len(g.Elements)), impl.ErrNone)
		b := askedByHand(list) - 1
		degrees, code := impl.SecondaryDegrees(g, list)
		all, other := impl.AllSecondaries(g, list)
		if b > impl.MaxSpace {
			refused++
			wantNumbers(t, "SecondaryDegrees"+what, degrees, code, nil, impl.ErrLimit)
			wantPolys(t, "AllSecondaries"+what, all, other, nil, impl.ErrLimit)
			return
		}
		found++
		if number > 1 {
			several++
		}
		wantNumbers(t, "SecondaryDegrees"+what, degrees, code, secondaryDegreesByHand(t, g, list, b), impl.ErrNone)
		sum := int64(0)
		for _, number := range degrees {
			sum += number
		}
		wantNumber(t, "the sum of SecondaryDegrees"+what, sum, code, number, impl.ErrNone)
		var joined []impl.Poly
		for n := range int64(impl.MaxSpace + 1) {
			polys := secondaries(t, g, list, n)
			joined = append(joined, polys...)
			if n <= b && int64(len(polys)) != degrees[n] || n > b && len(polys) > 0 {
				t.Fatalf("SecondaryInvariants%s of %d = %v, and SecondaryDegrees = %v", what, n, polys, degrees)
			}
		}
		wantPolys(t, "AllSecondaries"+what, all, other, joined, impl.ErrNone)
	})
	if found < 300 || refused < 50 || several < 100 {
		t.Errorf("secondary degrees of %d parameters, %d of them with several, and %d refused", found, several, refused)
	}
}

// TestSecondariesByHand finds secondary invariants as the document tells it: they are invariant, and make a
// reduced list.
func TestSecondariesByHand(t *testing.T) {
	forParameters(t, func(g impl.Group, list []impl.Poly) {
		for n := range int64(impl.MaxSpace + 1) {
			polys := secondaries(t, g, list, n)
			what := fmt.Sprintf("SecondaryInvariants(%v, %v, %d)", g, list, n)
			wantPolys(t, what, polys, impl.ErrNone, secondariesByHand(t, g, list, n), impl.ErrNone)
			wantReduced(t, what, polys, n)
			for _, f := range polys {
				if yes, code := impl.IsInvariant(g, f); !yes || code != impl.ErrNone {
					t.Fatalf("%s: IsInvariant(%v) = %v, %d", what, f, yes, code)
				}
			}
		}
	})
}

// TestInvariantsAreDecomposed multiplies secondary invariants by products of parameters: in each degree these
// are as many as there are dimensions, and independent.
func TestInvariantsAreDecomposed(t *testing.T) {
	forParameters(t, func(g impl.Group, list []impl.Poly) {
		var found []impl.Poly
		for n := range int64(impl.MaxSpace + 1) {
			found = append(found, secondaries(t, g, list, n)...)
			var rows [][]int64
			for _, f := range found {
				for _, numbers := range productsByHand(g.Prime, list, n-topDegree(f)) {
					rows = append(rows, rowByHand(numbers.times(g.Prime, tableOf(f)).poly(g.Prime, g.Size), n))
				}
			}
			space := basis(t, g, n)
			if len(rows) != len(space) || rankByHand(g.Prime, slices.Clone(rows)) != len(space) {
				t.Fatalf("%v and %v make %d invariants of %v of the degree %d, instead of %d", list, found, len(rows), g, n, len(space))
			}
		}
	})
}

// TestSecondariesOfOrders takes parameters in other orders, and by other numbers: the secondary invariants
// stay.
func TestSecondariesOfOrders(t *testing.T) {
	forParameters(t, func(g impl.Group, list []impl.Poly) {
		var other []impl.Poly
		for i, f := range list {
			other = append(other, summed(f, []impl.Poly{f}, 1+int64(i)%(g.Prime-1)))
		}
		slices.Reverse(other)
		for _, n := range []int64{3, impl.MaxSpace} {
			wantPolys(t, "SecondaryInvariants", secondaries(t, g, other, n), impl.ErrNone, secondaries(t, g, list, n), impl.ErrNone)
		}
	})
}

// TestSecondariesOfReflections takes generators of groups with names that are made by reflections: there is no
// secondary invariant but 1.
func TestSecondariesOfReflections(t *testing.T) {
	found := 0
	for _, p := range primes {
		for _, name := range groupNames {
			g := named(t, name, p)
			list, ok := generators(t, g, impl.MaxSpace)
			if int64(len(g.Elements))%p == 0 || !ok || int64(len(list)) != g.Size {
				continue
			}
			found++
			number, code := impl.SecondaryNumber(g, list)
			wantNumber(t, "SecondaryNumber of "+name, number, code, 1, impl.ErrNone)
			checkParameters(t, list)
			want := restSeries(degreesOf(list), impl.MaxSpace)
			for n := range int64(impl.MaxSpace + 1) {
				number, code := impl.CoinvariantNumber(g, n)
				wantNumber(t, fmt.Sprintf("CoinvariantNumber of %s for %d, %d", name, p, n), number, code, want[n], impl.ErrNone)
			}
		}
	}
	if found < 30 {
		t.Errorf("%d groups", found)
	}
}

// TestCoinvariantsByHand multiplies all invariants by all monomials; for greater sizes of lesser degrees.
func TestCoinvariantsByHand(t *testing.T) {
	manyGroups(t, func(g impl.Group) {
		var list []impl.Poly
		for n := range int64(impl.MaxSpace+1) - 3*(g.Size/3) {
			if n > 0 {
				list = append(list, basis(t, g, n)...)
			}
			number, code := impl.CoinvariantNumber(g, n)
			what := fmt.Sprintf("CoinvariantNumber(%v, %d)", g, n)
			wantNumber(t, what, number, code, restByHand(g.Prime, g.Size, list, n), impl.ErrNone)
		}
	})
}

// TestCoinvariantsOfGenerators takes the generators instead of all invariants: these are multiples of them.
func TestCoinvariantsOfGenerators(t *testing.T) {
	found := 0
	manyGroups(t, func(g impl.Group) {
		list, ok := generators(t, g, impl.MaxSpace)
		if !ok || len(list) == 0 {
			return
		}
		found++
		for n, want := range restNumbers(t, list, impl.MaxSpace) {
			number, code := impl.CoinvariantNumber(g, int64(n))
			wantNumber(t, fmt.Sprintf("CoinvariantNumber(%v, %d)", g, n), number, code, want, impl.ErrNone)
		}
	})
	if found < 200 {
		t.Errorf("%d groups", found)
	}
}

// TestParametersAtOnce asks from several goroutines: results depend on nothing but the arguments.
func TestParametersAtOnce(t *testing.T) {
	g := groupWith(13, 3, unitOf(3))
	list := splitPolys(t, 13, 3, "1x3 1y3 1z3")
	wantSameAtOnce(t, func() string {
		all, a := impl.AllSecondaries(g, list)
		degrees, b := impl.SecondaryDegrees(g, list)
		numbers, c := impl.RestNumbers(list, impl.MaxBound)
		coinvariant, d := impl.CoinvariantNumber(g, impl.MaxSpace)
		return fmt.Sprint(all, a, degrees, b, numbers, c, coinvariant, d)
	})
}
