package tests

import (
	"fmt"
	"math/rand"
	"slices"
	"testing"

	"loop.example/g01285/impl"
)

// basis returns the basis of a degree.
func basis(t *testing.T, g impl.Group, n int64) []impl.Poly {
	t.Helper()
	list, code := impl.InvariantBasis(g, n)
	if code != impl.ErrNone {
		t.Fatalf("InvariantBasis(%v, %d): code %d", g, n, code)
	}
	return list
}

// generated returns what a list generates in a degree.
func generated(t *testing.T, list []impl.Poly, n int64) []impl.Poly {
	t.Helper()
	polys, code := impl.GeneratedBasis(list, n)
	if code != impl.ErrNone {
		t.Fatalf("%s: code %d", asked("GeneratedBasis", list, n), code)
	}
	return polys
}

// exponents returns the lists of exponents of the products of a degree.
func exponents(t *testing.T, list []impl.Poly, n int64) [][]int64 {
	t.Helper()
	lists, code := impl.ProductExponents(list, n)
	if code != impl.ErrNone {
		t.Fatalf("%s: code %d", asked("ProductExponents", list, n), code)
	}
	return lists
}

// isGenerated reports whether a list generates f.
func isGenerated(t *testing.T, list []impl.Poly, f impl.Poly) bool {
	t.Helper()
	yes, code := impl.IsGenerated(list, f)
	if code != impl.ErrNone {
		t.Fatalf("IsGenerated(%v, %v): code %d", list, f, code)
	}
	return yes
}

// isGenerating reports whether a list is generating up to a degree.
func isGenerating(t *testing.T, g impl.Group, list []impl.Poly, n int64) bool {
	t.Helper()
	yes, code := impl.IsGenerating(g, list, n)
	if code != impl.ErrNone {
		t.Fatalf("IsGenerating(%v, %v, %d): code %d", g, list, n, code)
	}
	return yes
}

// generators returns the generators up to a degree, and whether there are no more than MaxList; there
// is no other error.
func generators(t *testing.T, g impl.Group, n int64) ([]impl.Poly, bool) {
	t.Helper()
	list, code := impl.GeneratorsOf(g, n)
	if code != impl.ErrNone && (code != impl.ErrLimit || len(list) > 0) {
		t.Fatalf("GeneratorsOf(%v, %d) = %v, %d", g, n, list, code)
	}
	return list, code == impl.ErrNone
}

// wantReduced checks that polynomials are homogeneous of a degree, other than 0, and make a reduced list.
func wantReduced(t *testing.T, what string, list []impl.Poly, n int64) {
	t.Helper()
	for _, f := range list {
		homogeneous, code := impl.IsHomogeneous(f)
		if !homogeneous || code != impl.ErrNone || topDegree(f) != n {
			t.Fatalf("%s: %v has another degree than %d, or is none", what, f, n)
		}
	}
	if !isReduced(rowsByHand(list, n)) {
		t.Fatalf("%s: %v are no reduced list", what, list)
	}
}

// TestPromise5Bases finds bases invariant, reduced, and as many as there are dimensions.
func TestPromise5Bases(t *testing.T) {
	manyGroups(t, func(g impl.Group) {
		numbers, code := impl.InvariantNumbers(g, impl.MaxSpace)
		wantNumbers(t, fmt.Sprintf("InvariantNumbers(%v)", g), numbers, code, hilbert(t, g, impl.MaxSpace), impl.ErrNone)
		for n := range int64(impl.MaxSpace + 1) {
			list := basis(t, g, n)
			wantReduced(t, "InvariantBasis", list, n)
			if int64(len(list)) != numbers[n] {
				t.Fatalf("InvariantBasis(%v, %d) = %v, want %d of them", g, n, list, numbers[n])
			}
			for _, f := range list {
				if f.Prime != g.Prime || f.Vars != g.Size {
					t.Fatalf("InvariantBasis(%v, %d) has %v", g, n, f)
				}
				// For the greater degrees the values at points take long.
				if n <= 3 {
					wantInvariant(t, "InvariantBasis", g, f)
				} else if yes, code := impl.IsInvariant(g, f); !yes || code != impl.ErrNone {
					t.Fatalf("InvariantBasis(%v, %d): IsInvariant(%v) = %v, %d", g, n, f, yes, code)
				}
			}
		}
	})
}

// TestBasesByHand finds bases from the conditions that all Elements make, up to lesser degrees for
// greater sizes.
func TestBasesByHand(t *testing.T) {
	count := 0
	manyGroups(t, func(g impl.Group) {
		most := int64(3)
		if count++; g.Size < 3 || count%20 == 0 {
			most = impl.MaxSpace
		}
		for n := range most + 1 {
			list, code := impl.InvariantBasis(g, n)
			wantPolys(t, fmt.Sprintf("InvariantBasis(%v, %d)", g, n), list, code, basisByHand(g, n), impl.ErrNone)
		}
	})
}

// TestBasesByTransfers reduces the transfers of all monomials: for groups that are not modular these
// tell all invariants.
func TestBasesByTransfers(t *testing.T) {
	found := 0
	manyGroups(t, func(g impl.Group) {
		p, d := g.Prime, g.Size
		if int64(len(g.Elements))%p == 0 {
			return
		}
		found++
		for n := range int64(5) {
			var rows [][]int64
			for _, e := range monomials(d, n) {
				x, code := impl.TransferOf(g, built(p, d, impl.Term{Exps: e, Value: 1}))
				if code != impl.ErrNone {
					t.Fatalf("TransferOf: code %d", code)
				}
				rows = append(rows, rowByHand(x, n))
			}
			want := polysByHand(p, d, n, reducedByHand(p, rows))
			wantPolys(t, fmt.Sprintf("InvariantBasis(%v, %d)", g, n), basis(t, g, n), impl.ErrNone, want, impl.ErrNone)
		}
	})
	if found < 200 {
		t.Errorf("%d groups that are not modular", found)
	}
}

// TestPromise5Generators finds generators generating, up to each degree, and none of them to spare.
func TestPromise5Generators(t *testing.T) {
	found, refused := 0, 0
	check := func(g impl.Group) {
		for n := int64(1); n <= impl.MaxSpace; n++ {
			list, ok := generators(t, g, n)
			numbers, code := impl.NeededNumbers(g, n)
			if !ok {
				refused++
				wantNumbers(t, fmt.Sprintf("NeededNumbers(%v, %d)", g, n), numbers, code, nil, impl.ErrLimit)
				continue
			}
			found++
			wantNumbers(t, fmt.Sprintf("NeededNumbers(%v, %d)", g, n), numbers, code, neededByHand(list, n), impl.ErrNone)
			if len(list) > impl.MaxList || !slices.IsSorted(degreesOf(list)) || !isGenerating(t, g, list, n) {
				t.Fatalf("GeneratorsOf(%v, %d) = %v: they are not generating", g, n, list)
			}
			for i, f := range list {
				// Those of lesser degrees have been looked at before.
				if topDegree(f) < n {
					continue
				}
				wantInvariant(t, "GeneratorsOf", g, f)
				less := slices.Delete(slices.Clone(list), i, i+1)
				if isGenerating(t, g, less, n) || isGenerating(t, g, less, impl.MaxSpace) || n > 1 && !isGenerating(t, g, less, n-1) {
					t.Fatalf("GeneratorsOf(%v, %d) = %v: without the number %d they are generating", g, n, list, i)
				}
			}
			if len(list) > 0 {
				wantPolys(t, asked("GeneratedBasis", list, n), generated(t, list, n), impl.ErrNone, basis(t, g, n), impl.ErrNone)
			}
		}
	}
	manyGroups(t, check)
	for _, c := range generatorCases(t) {
		check(c.g)
	}
	if found < 1000 || refused < 10 {
		t.Errorf("generators are found %d times, and refused %d times", found, refused)
	}
}

// TestGeneratorsByHand finds generators step by step, with all products multiplied out.
func TestGeneratorsByHand(t *testing.T) {
	count, refused := 0, 0
	check := func(g impl.Group, most int64) {
		want, wantCode := generatorsByHand(g, most)
		if wantCode != impl.ErrNone {
			refused++
		}
		list, code := impl.GeneratorsOf(g, most)
		wantPolys(t, fmt.Sprintf("GeneratorsOf(%v, %d)", g, most), list, code, want, wantCode)
	}
	manyGroups(t, func(g impl.Group) {
		if count++; g.Size < 3 && len(g.Elements) <= 12 || count%20 == 0 {
			check(g, 5)
		} else {
			check(g, 3)
		}
	})
	for _, c := range generatorCases(t) {
		check(c.g, impl.MaxSpace)
	}
	if refused < 4 {
		t.Errorf("generators are refused %d times", refused)
	}
}

// TestGeneratorsOfLesserDegrees finds the generators up to a degree at the beginning of those up to a
// greater one.
func TestGeneratorsOfLesserDegrees(t *testing.T) {
	manyGroups(t, func(g impl.Group) {
		var before []impl.Poly
		ok := true
		for n := int64(1); n <= impl.MaxSpace; n++ {
			list, fits := generators(t, g, n)
			if fits && !ok {
				t.Fatalf("GeneratorsOf(%v, %d) = %v, and there were too many before", g, n, list)
			}
			if ok = fits; !fits {
				continue
			}
			for i, f := range list {
				if i < len(before) && !samePoly(before[i], f) || i >= len(before) && topDegree(f) != n {
					t.Fatalf("GeneratorsOf(%v, %d) = %v behind %v", g, n, list, before)
				}
			}
			if len(list) < len(before) {
				t.Fatalf("GeneratorsOf(%v, %d) = %v behind %v", g, n, list, before)
			}
			before = list
		}
	})
}

// forLists calls a check with lists of all lengths, for all primes and numbers of letters.
func forLists(check func(r *rand.Rand, list []impl.Poly)) {
	r := rand.New(rand.NewSource(36))
	for _, p := range primes {
		for d := int64(1); d <= 3; d++ {
			for count := 1; count <= impl.MaxList; count++ {
				check(r, randomForms(r, p, d, count, 3))
				check(r, randomForms(r, p, d, count, 6))
			}
		}
	}
}

// TestGeneratedBasisByHand multiplies out all products, if there are few of them, and reduces them.
func TestGeneratedBasisByHand(t *testing.T) {
	found := 0
	forLists(func(r *rand.Rand, list []impl.Poly) {
		p, d := list[0].Prime, list[0].Vars
		for n := range int64(impl.MaxDegree + 1) {
			if waysByHand(degreesOf(list), n) > 60 {
				continue
			}
			polys := generated(t, list, n)
			found++
			wantPolys(t, asked("GeneratedBasis", list, n), polys, impl.ErrNone, generatedByHand(p, d, list, n), impl.ErrNone)
		}
	})
	if found < 2000 {
		t.Errorf("%d spaces", found)
	}
}

// TestProductsAreGenerated makes all products of a degree by their exponents: these are generated, and
// so are sums of their multiples; there are at least as many as there are dimensions.
func TestProductsAreGenerated(t *testing.T) {
	forLists(func(r *rand.Rand, list []impl.Poly) {
		p, d := list[0].Prime, list[0].Vars
		n := r.Int63n(impl.MaxDegree + 1)
		lists := exponents(t, list, n)
		whole := built(p, d)
		for i, exps := range lists {
			f, code := impl.ProductOfList(list, exps)
			if code != impl.ErrNone || topDegree(f) != n {
				t.Fatalf("ProductOfList(%v, %v) = %v, %d", list, exps, f, code)
			}
			whole = sum(t, whole, f, r.Int63n(p))
			if i < 5 && (!isGenerated(t, list, f) || !isGenerated(t, list, whole)) {
				t.Fatalf("the products of %v with %v, or %v with those before, are not generated", list, exps, whole)
			}
		}
		polys := generated(t, list, n)
		wantReduced(t, asked("GeneratedBasis", list, n), polys, n)
		if len(polys) > len(lists) || !isGenerated(t, list, whole) {
			t.Fatalf("%v generate %v, less than %v", list, polys, whole)
		}
		for _, f := range polys {
			if !isGenerated(t, list, f) {
				t.Fatalf("%v is in the basis of what %v generate, but is not generated", f, list)
			}
		}
	})
}

// TestIsGeneratedByRanks asks for random polynomials: with one that is not generated there is a
// dimension more.
func TestIsGeneratedByRanks(t *testing.T) {
	found, missing := 0, 0
	forLists(func(r *rand.Rand, list []impl.Poly) {
		p, d := list[0].Prime, list[0].Vars
		for range 4 {
			n := 1 + r.Int63n(6)
			polys := generated(t, list, n)
			f := randomForm(r, p, d, n)
			if len(polys) > 0 && r.Intn(2) == 0 {
				f = summed(f, []impl.Poly{polys[r.Intn(len(polys))], polys[0]}, 1+r.Int63n(p-1))
			}
			want := rankByHand(p, append(rowsByHand(polys, n), rowByHand(f, n))) == len(polys)
			if isGenerated(t, list, f) != want {
				t.Fatalf("IsGenerated(%v, %v) = %v", list, f, !want)
			}
			if want {
				found++
			} else {
				missing++
			}
		}
	})
	if found < 200 || missing < 200 {
		t.Errorf("%d polynomials are generated, %d are not", found, missing)
	}
}

// TestGeneratedByOthers puts polynomials that are generated to a list, and takes them in another order:
// what it generates stays.
func TestGeneratedByOthers(t *testing.T) {
	forLists(func(r *rand.Rand, list []impl.Poly) {
		if len(list) == impl.MaxList {
			return
		}
		n := 1 + r.Int63n(6)
		more := slices.Clone(list)
		if polys := generated(t, list, n); len(polys) > 0 {
			more = append(more, polys[r.Intn(len(polys))])
		}
		r.Shuffle(len(more), func(i, j int) { more[i], more[j] = more[j], more[i] })
		for _, k := range []int64{n, 2 * n} {
			a, b := generated(t, list, k), generated(t, more, k)
			if !slices.EqualFunc(a, b, samePoly) {
				t.Fatalf("%v generate %v in the degree %d, and %v generate %v", list, a, k, more, b)
			}
		}
	})
}

// TestIsGeneratingByBases asks lists of random invariants: they are generating if they generate as many
// dimensions as there are, in each degree.
func TestIsGeneratingByBases(t *testing.T) {
	r := rand.New(rand.NewSource(37))
	yes, no := 0, 0
	manyGroups(t, func(g impl.Group) {
		var list []impl.Poly
		for k := int64(1); k <= 4; k++ {
			for _, f := range basis(t, g, k) {
				if r.Intn(4) > 0 && len(list) < impl.MaxList {
					list = append(list, f)
				}
			}
		}
		want := true
		for n := int64(1); n <= impl.MaxSpace; n++ {
			dimension := 0
			if len(list) > 0 {
				dimension = len(generated(t, list, n))
			}
			want = want && dimension == len(basis(t, g, n))
			if isGenerating(t, g, list, n) != want {
				t.Fatalf("IsGenerating(%v, %v, %d) = %v", g, list, n, !want)
			}
			if want {
				yes++
			} else {
				no++
			}
		}
	})
	if yes < 300 || no < 300 {
		t.Errorf("%d lists are generating, %d are not", yes, no)
	}
}
