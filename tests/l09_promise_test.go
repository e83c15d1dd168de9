package tests

import (
	"fmt"
	"math/rand"
	"slices"
	"testing"

	"loop.example/g01285/impl"
)

// forRelations calls a check with lists of all lengths that have at most some products of a degree, for all degrees.
func forRelations(most int64, check func(r *rand.Rand, list []impl.Poly, n int64)) {
	forLists(func(r *rand.Rand, list []impl.Poly) {
		for n := range int64(impl.MaxDegree + 1) {
			if waysByHand(degreesOf(list), n) <= most {
				check(r, list, n)
			}
		}
	})
}

// summedUp returns a sum of multiples of rows of count numbers.
func summedUp(p int64, count int, rows [][]int64, times func() int64) []int64 {
	sum := zeros(count)
	for _, row := range rows {
		k := times()
		for i, number := range row {
			sum[i] = (sum[i] + k*number) % p
		}
	}
	return sum
}

// TestPromise9Relations makes 0 of relations, also with their products taken from chapter 5, and adds up their
// dimensions and those of what is generated.
func TestPromise9Relations(t *testing.T) {
	found, none := 0, 0
	forRelations(80, func(r *rand.Rand, list []impl.Poly, n int64) {
		p, d := list[0].Prime, list[0].Vars
		lists := exponents(t, list, n)
		rows := relations(t, list, n)
		if len(rows)+len(generated(t, list, n)) != len(lists) || !isReduced(rows) {
			t.Fatalf("%s = %v, beside %d products", asked("RelationsOf", list, n), rows, len(lists))
		}
		number, code := impl.CountRelations(list, n)
		wantNumber(t, asked("CountRelations", list, n), number, code, int64(len(rows)), impl.ErrNone)
		if len(rows) == 0 {
			none++
			return
		}
		found++
		some := summedUp(p, len(lists), rows, func() int64 { return r.Int63n(p) })
		for _, relation := range [][]int64{rows[0], rows[r.Intn(len(rows))], some} {
			if !isRelation(t, list, n, relation) || len(timesProducts(list, n, relation).Terms) > 0 {
				t.Fatalf("%s: %v does not make 0", asked("RelationsOf", list, n), relation)
			}
		}
		made := built(p, d)
		for i, exps := range lists {
			f, code := impl.ProductOfList(list, exps)
			if code != impl.ErrNone {
				t.Fatalf("ProductOfList(%v, %v): code %d", list, exps, code)
			}
			made = sum(t, made, f, some[i])
		}
		wantPoly(t, fmt.Sprintf("the relation %v of %v", some, list), made, impl.ErrNone, built(p, d))
	})
	if found < 1500 || none < 500 {
		t.Errorf("there are relations %d times, and none %d times", found, none)
	}
}

// TestPromise9Generators takes the generators of groups: their relations, and what they generate, which is all
// invariants of degrees up to MaxSpace.
func TestPromise9Generators(t *testing.T) {
	found := 0
	check := func(g impl.Group) {
		list, ok := generators(t, g, impl.MaxSpace)
		if !ok || len(list) == 0 {
			return
		}
		for n, dimension := range hilbert(t, g, impl.MaxSpace) {
			ways := waysByHand(degreesOf(list), int64(n))
			number, code := impl.CountRelations(list, int64(n))
			wantNumber(t, asked("CountRelations", list, int64(n)), number, code, ways-dimension, impl.ErrNone)
			if number > 0 {
				found++
			}
			if ways > 30 {
				continue
			}
			rows := relations(t, list, int64(n))
			wantNumber(t, asked("how many RelationsOf", list, int64(n)), int64(len(rows)), impl.ErrNone, number, impl.ErrNone)
		}
	}
	manyGroups(t, check)
	for _, c := range generatorCases(t) {
		check(c.g)
	}
	if found < 50 {
		t.Errorf("generators have relations %d times", found)
	}
}

// TestRelationsByHand solves what has to be 0 at each monomial.
func TestRelationsByHand(t *testing.T) {
	forRelations(40, func(_ *rand.Rand, list []impl.Poly, n int64) {
		rows, code := impl.RelationsOf(list, n)
		wantLists(t, asked("RelationsOf", list, n), rows, code, relationsByHand(list, n), impl.ErrNone)
	})
}

// TestIsRelationByHand takes random numbers, relations, and relations that are changed at one place.
func TestIsRelationByHand(t *testing.T) {
	found, others := 0, 0
	forRelations(60, func(r *rand.Rand, list []impl.Poly, n int64) {
		p, count := list[0].Prime, int(waysByHand(degreesOf(list), n))
		any := zeros(count)
		for i := range any {
			any[i] = r.Int63n(p)
		}
		relation := summedUp(p, count, relations(t, list, n), func() int64 { return r.Int63n(p) })
		changed := slices.Clone(relation)
		if count > 0 {
			i := r.Intn(count)
			changed[i] = (changed[i] + 1 + r.Int63n(p-1)) % p
			// The products of other polynomials than 0 are not 0.
			if isRelation(t, list, n, changed) {
				t.Fatalf("IsRelation(%v, %d, %v), beside %v", list, n, changed, relation)
			}
		}
		for _, numbers := range [][]int64{any, relation, changed} {
			want := len(timesProducts(list, n, numbers).Terms) == 0
			if isRelation(t, list, n, numbers) != want {
				t.Fatalf("IsRelation(%v, %d, %v) = %v", list, n, numbers, !want)
			}
			if want {
				found++
			} else {
				others++
			}
		}
	})
	if found < 2000 || others < 2000 {
		t.Errorf("%d relations, and %d others", found, others)
	}
}

// TestNewRelationsByHand multiplies all relations of lesser degrees by all products that are missing, as the
// document tells it.
func TestNewRelationsByHand(t *testing.T) {
	found, none := 0, 0
	check := func(list []impl.Poly) {
		for n := range int64(impl.MaxDegree + 1) {
			if waysByHand(degreesOf(list), n) > 36 {
				continue
			}
			want := newByHand(list, n)
			wantNumber(t, asked("NewRelations", list, n), newRelations(t, list, n), impl.ErrNone, want, impl.ErrNone)
			if want > 0 {
				found++
			} else if len(relationsByHand(list, n)) > 0 {
				none++
			}
		}
	}
	forLists(func(_ *rand.Rand, list []impl.Poly) { check(list) })
	for _, p := range []int64{2, 5} {
		check(monomialCurve(p, 3, 4, 5))
		check(monomialCurve(p, 2, 5, 7, 9))
		check(monomialCurve(p, 4, 6, 7, 11))
		check(monomialList(p, 2, 3))
		check(monomialList(p, 3, 2))
		check(append(monomialList(p, 2, 2), monomialList(p, 2, 3)...))
	}
	if found < 300 || none < 300 {
		t.Errorf("there are new relations %d times, and only others %d times", found, none)
	}
}

// TestRelationsFromLesserDegrees multiplies relations by products: what arises are relations, and there are never
// more new ones than relations.
func TestRelationsFromLesserDegrees(t *testing.T) {
	count := 0
	forRelations(24, func(r *rand.Rand, list []impl.Poly, n int64) {
		rows := fromLesser(list, n)
		for range min(len(rows), 4) {
			count++
			if relation := rows[r.Intn(len(rows))]; !isRelation(t, list, n, relation) {
				t.Fatalf("IsRelation(%v, %d, %v) = false", list, n, relation)
			}
		}
		if number := newRelations(t, list, n); number < 0 || number > int64(len(relations(t, list, n))) {
			t.Fatalf("%s = %d", asked("NewRelations", list, n), number)
		}
	})
	if count < 1000 {
		t.Errorf("%d relations", count)
	}
}

// TestNewRelationsOfMore puts a product of the list to it: there is a new relation more, of the degree of this
// product, and no other one. With a free polynomial more, in a letter of its own, numbers stay.
func TestNewRelationsOfMore(t *testing.T) {
	forLists(func(r *rand.Rand, list []impl.Poly) {
		if len(list) == impl.MaxList {
			return
		}
		p, d := list[0].Prime, list[0].Vars
		f := list[r.Intn(len(list))]
		if k := topDegree(f) * 2; k <= 8 && r.Intn(2) == 0 {
			f = multiplied(f, []impl.Poly{f, f})
		}
		more := append(slices.Clone(list), f)
		r.Shuffle(len(more), func(i, j int) { more[i], more[j] = more[j], more[i] })
		for n := range int64(9) {
			want := newRelations(t, list, n)
			if n == topDegree(f) {
				want++
			}
			wantNumber(t, asked("NewRelations", more, n), newRelations(t, more, n), impl.ErrNone, want, impl.ErrNone)
		}
		if d == 3 {
			return
		}
		var wider []impl.Poly
		for _, f := range list {
			wider = append(wider, built(p, d+1, f.Terms...))
		}
		last := impl.Term{Value: 1}
		last.Exps[d] = byte(1 + r.Intn(4))
		wider = append(wider, built(p, d+1, last))
		for n := range int64(9) {
			want := newRelations(t, list, n)
			wantNumber(t, asked("NewRelations", wider, n), newRelations(t, wider, n), impl.ErrNone, want, impl.ErrNone)
		}
	})
}

// TestFreeListsHaveNoRelations holds relations against free lists. Where a list has relations first, all of them
// are new.
func TestFreeListsHaveNoRelations(t *testing.T) {
	free, bound := 0, 0
	forLists(func(_ *rand.Rand, list []impl.Poly) {
		yes, code := impl.AreFree(list, impl.MaxBound)
		if code != impl.ErrNone {
			t.Fatalf("AreFree(%v): code %d", list, code)
		}
		number := int64(0)
		for n := int64(0); n <= impl.MaxDegree && number == 0; n++ {
			number, code = impl.CountRelations(list, n)
			wantNumber(t, asked("NewRelations", list, n), newRelations(t, list, n), code, number, impl.ErrNone)
		}
		if yes != (number == 0) {
			t.Fatalf("%v: free %v, and %d relations", list, yes, number)
		}
		if yes {
			free++
		} else {
			bound++
		}
	})
	if free < 20 || bound < 100 {
		t.Errorf("%d lists are free, %d are not", free, bound)
	}
}

// TestNoetherNumbersByGenerators takes the greatest degree of the generators. That of a group that is not modular is
// at most its order.
func TestNoetherNumbersByGenerators(t *testing.T) {
	refused := 0
	check := func(g impl.Group) {
		for n := int64(1); n <= impl.MaxSpace; n++ {
			number, code := impl.NoetherNumber(g, n)
			what := fmt.Sprintf("NoetherNumber(%v, %d)", g, n)
			list, ok := generators(t, g, n)
			if !ok {
				refused++
				wantNumber(t, what, number, code, 0, impl.ErrLimit)
				continue
			}
			wantNumber(t, what, number, code, slices.Max(append(degreesOf(list), 0)), impl.ErrNone)
			if order := int64(len(g.Elements)); order%g.Prime != 0 && number > order {
				t.Fatalf("%s = %d, greater than the order", what, number)
			}
		}
	}
	manyGroups(t, check)
	for _, c := range generatorCases(t) {
		check(c.g)
	}
	if refused < 10 {
		t.Errorf("generators are refused %d times", refused)
	}
}

// fewPoints calls a check with groups of all kinds with at most MaxPoints points.
func fewPoints(t *testing.T, check func(g impl.Group)) {
	t.Helper()
	manyGroups(t, func(g impl.Group) {
		if pointCount(g) <= impl.MaxPoints {
			check(g)
			return
		}
		number, code := impl.CountOrbits(g)
		wantNumber(t, fmt.Sprintf("CountOrbits(%v)", g), number, code, 0, impl.ErrLimit)
	})
}

// TestOrbitsByHand numbers orbits, and counts the points that Elements leave.
func TestOrbitsByHand(t *testing.T) {
	r := rand.New(rand.NewSource(91))
	same, other := 0, 0
	fewPoints(t, func(g impl.Group) {
		numbers, count := orbitNumbers(g)
		if number := countOrbits(t, g); number != count || number != fixedByHand(g) {
			t.Fatalf("CountOrbits(%v) = %d instead of %d", g, number, count)
		}
		all := points(g.Prime, g.Size)
		for range 20 {
			x := all[r.Intn(len(all))]
			y := all[r.Intn(len(all))]
			if r.Intn(2) == 0 {
				y = led(g.Prime, g.Size, g.Elements[r.Intn(len(g.Elements))], x)
			}
			want := numbers[fmt.Sprint(x)] == numbers[fmt.Sprint(y)]
			if sameOrbits(t, g, x, y) != want || sameOrbits(t, g, y, x) != want {
				t.Fatalf("AreSameOrbits(%v, %v, %v) = %v", g, x, y, !want)
			}
			if want {
				same++
			} else {
				other++
			}
		}
	})
	if same < 1000 || other < 1000 {
		t.Errorf("%d pairs of one orbit, %d of two", same, other)
	}
}

// TestSameOrbitsByOrbits looks for a point in the orbit of another one, also for groups with more than MaxPoints
// points.
func TestSameOrbitsByOrbits(t *testing.T) {
	r := rand.New(rand.NewSource(92))
	manyGroups(t, func(g impl.Group) {
		for range 4 {
			x, y := randomPoint(r, g.Prime, g.Size), randomPoint(r, g.Prime, g.Size)
			orbit, code := impl.OrbitOfPoint(g, x)
			if code != impl.ErrNone {
				t.Fatalf("OrbitOfPoint(%v, %v): code %d", g, x, code)
			}
			want := slices.ContainsFunc(orbit, func(z []int64) bool { return slices.Equal(y, z) })
			if sameOrbits(t, g, x, y) != want || !sameOrbits(t, g, x, orbit[r.Intn(len(orbit))]) {
				t.Fatalf("AreSameOrbits(%v, %v, %v) = %v, or not with a point of the orbit", g, x, y, !want)
			}
		}
	})
}

// invariantsUpTo returns polynomials of the bases of the degrees 1 to 4 of a group, and sums of them.
func invariantsUpTo(t *testing.T, r *rand.Rand, g impl.Group) []impl.Poly {
	t.Helper()
	list := []impl.Poly{built(g.Prime, g.Size, term(1))}
	for n := int64(1); n <= 4; n++ {
		list = append(list, basis(t, g, n)...)
	}
	for range 4 {
		list = append(list, mixed(r, list))
	}
	r.Shuffle(len(list), func(i, j int) { list[i], list[j] = list[j], list[i] })
	return list[:min(len(list), r.Intn(impl.MaxList+1))]
}

// TestPromise16 looks at lists of invariants at all points: they have at most as many lists of values as there are
// orbits, as many only if they separate them, and one for each orbit.
func TestPromise16(t *testing.T) {
	r := rand.New(rand.NewSource(93))
	yes, no := 0, 0
	fewPoints(t, func(g impl.Group) {
		list := invariantsUpTo(t, r, g)
		orbits, seen := countOrbits(t, g), commonValues(t, g, list)
		if seen > orbits || seen < 1 {
			t.Fatalf("CommonValues(%v, %v) = %d, and there are %d orbits", g, list, seen, orbits)
		}
		if separates(t, g, list) != (seen == orbits) {
			t.Fatalf("SeparatesOrbits(%v, %v) is %v, with %d lists of values for %d orbits", g, list, seen != orbits, seen, orbits)
		}
		if seen == orbits {
			yes++
		} else {
			no++
		}
		for range 3 {
			x := randomPoint(r, g.Prime, g.Size)
			y := led(g.Prime, g.Size, g.Elements[r.Intn(len(g.Elements))], x)
			values, code := impl.ValuesOf(list, x)
			wantNumbers(t, fmt.Sprintf("ValuesOf(%v, %v)", list, x), values, code, valuesByHand(list, x), impl.ErrNone)
			other, code := impl.ValuesOf(list, y)
			wantNumbers(t, fmt.Sprintf("ValuesOf(%v, %v)", list, y), other, code, values, impl.ErrNone)
		}
	})
	if yes < 40 || no < 100 {
		t.Errorf("%d lists separate, %d do not", yes, no)
	}
}

// TestSeparationByHand looks at any polynomials at all points.
func TestSeparationByHand(t *testing.T) {
	r := rand.New(rand.NewSource(94))
	yes, no := 0, 0
	fewPoints(t, func(g impl.Group) {
		list := anyPolys(r, g.Prime, g.Size, r.Intn(impl.MaxList+1), 4)
		seen, separated := seenByHand(g, list)
		what := fmt.Sprintf("(%v, %v)", g, list)
		wantNumber(t, "CommonValues"+what, commonValues(t, g, list), impl.ErrNone, seen, impl.ErrNone)
		wantBool(t, "SeparatesOrbits"+what, separates(t, g, list), impl.ErrNone, separated)
		if separated {
			yes++
		} else {
			no++
		}
	})
	if yes < 100 || no < 50 {
		t.Errorf("%d lists separate, %d do not", yes, no)
	}
}

// TestGeneratorsSeparate takes groups that are not modular, of orders of at most MaxSpace: their generators, which
// have degrees of at most the order, separate their orbits.
func TestGeneratorsSeparate(t *testing.T) {
	found := 0
	fewPoints(t, func(g impl.Group) {
		order := int64(len(g.Elements))
		if order > impl.MaxSpace || order%g.Prime == 0 {
			return
		}
		list, ok := generators(t, g, order)
		if !ok {
			return
		}
		found++
		if !separates(t, g, list) || commonValues(t, g, list) != countOrbits(t, g) {
			t.Fatalf("SeparatesOrbits(%v, %v) = false, or there are fewer values", g, list)
		}
	})
	if found < 60 {
		t.Errorf("%d groups", found)
	}
}

// TestValuesByHand adds up Terms, for lists of all lengths.
func TestValuesByHand(t *testing.T) {
	forLetters(95, func(r *rand.Rand, p int64, d int64) {
		for count := 0; count <= impl.MaxList; count++ {
			list, point := anyPolys(r, p, d, count, impl.MaxDegree), randomPoint(r, p, d)
			values, code := impl.ValuesOf(list, point)
			wantNumbers(t, fmt.Sprintf("ValuesOf(%v, %v)", list, point), values, code, valuesByHand(list, point), impl.ErrNone)
			for i, f := range list {
				wantNumber(t, "ValuesOf at one place", values[i], code, value(t, f, point), impl.ErrNone)
			}
		}
	})
}

// TestPromise17 finds the transfer numbers of groups that are not modular as dimensions of invariants; those of others
// are at most these, and less in the degree 0.
func TestPromise17(t *testing.T) {
	whole, modular, less := 0, 0, 0
	manyGroups(t, func(g impl.Group) {
		numbers, code := impl.InvariantNumbers(g, impl.MaxSpace)
		if code != impl.ErrNone {
			t.Fatalf("InvariantNumbers(%v): code %d", g, code)
		}
		isModular := int64(len(g.Elements))%g.Prime == 0
		for n, dimension := range numbers {
			number := transferNumber(t, g, int64(n))
			switch {
			case !isModular:
				whole++
				wantNumber(t, fmt.Sprintf("TransferNumber(%v, %d)", g, n), number, impl.ErrNone, dimension, impl.ErrNone)
			case number < 0 || number > dimension || n == 0 && number != 0:
				t.Fatalf("TransferNumber(%v, %d) = %d, and the dimension is %d", g, n, number, dimension)
			default:
				modular++
				if number < dimension {
					less++
				}
			}
		}
	})
	if whole < 1000 || modular < 200 || less < 200 {
		t.Errorf("%d numbers of groups that are not modular, %d of others, %d of them less", whole, modular, less)
	}
}

// TestTransferNumbersByHand adds up what all Elements make of each monomial, for greater sizes of lesser degrees.
func TestTransferNumbersByHand(t *testing.T) {
	manyGroups(t, func(g impl.Group) {
		for n := range int64(impl.MaxSpace+1) - 3*(g.Size/3) {
			want := transfersByHand(g, n)
			wantNumber(t, fmt.Sprintf("TransferNumber(%v, %d)", g, n), transferNumber(t, g, n), impl.ErrNone, want, impl.ErrNone)
		}
	})
}

// TestTransfersTellInvariants reduces the transfers of chapter 3 of all monomials: they are in the space of the basis,
// and as many as the transfer number tells.
func TestTransfersTellInvariants(t *testing.T) {
	manyGroups(t, func(g impl.Group) {
		n := int64(len(g.Elements)) % 5
		rows := rowsByHand(basis(t, g, n), n)
		var transfers [][]int64
		for _, f := range monomialList(g.Prime, g.Size, n) {
			x, code := impl.TransferOf(g, f)
			if code != impl.ErrNone {
				t.Fatalf("TransferOf(%v, %v): code %d", g, f, code)
			}
			if row := rowByHand(x, n); leadOf(without(g.Prime, row, rows)) < 0 {
				transfers = append(transfers, row)
			} else {
				t.Fatalf("TransferOf(%v, %v) = %v is not in the space of the basis", g, f, x)
			}
		}
		want := int64(rankByHand(g.Prime, transfers))
		wantNumber(t, fmt.Sprintf("TransferNumber(%v, %d)", g, n), transferNumber(t, g, n), impl.ErrNone, want, impl.ErrNone)
	})
}

// TestRelationsAtOnce asks from several goroutines: results depend on nothing but the arguments.
func TestRelationsAtOnce(t *testing.T) {
	g := named(t, "symmetric", 7)
	list := splitPolys(t, 7, 3, "1x+1y+1z 1xy+1xz+1yz 1xyz 1x2+1y2+1z2 1x3+1y3+1z3")
	wantSameAtOnce(t, func() string {
		rows, a := impl.RelationsOf(list, 6)
		number, b := impl.NewRelations(list, 9)
		seen, c := impl.CommonValues(g, list)
		yes, d := impl.SeparatesOrbits(g, list)
		transfers, e := impl.TransferNumber(g, impl.MaxSpace)
		return fmt.Sprint(rows, a, number, b, seen, c, yes, d, transfers, e)
	})
}
