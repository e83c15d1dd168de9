package tests

import (
	"fmt"
	"math/rand"
	"slices"
	"testing"

	"loop.example/g01285/impl"
)

// mirrorOf returns the mirror of a matrix.
func mirrorOf(t *testing.T, p int64, n int64, g impl.Matrix) [][]int64 {
	t.Helper()
	mirror, code := impl.MirrorOf(p, n, g)
	if code != impl.ErrNone || !isReduced(mirror) {
		t.Fatalf("MirrorOf(%d, %d, %v) = %v, %d", p, n, g, mirror, code)
	}
	return mirror
}

// rootAndForm returns those of a reflection.
func rootAndForm(t *testing.T, p int64, n int64, g impl.Matrix) ([]int64, impl.Poly) {
	t.Helper()
	root, code := impl.RootOfReflection(p, n, g)
	form, other := impl.FormOfReflection(p, n, g)
	if code != impl.ErrNone || other != impl.ErrNone || int64(len(root)) != n || !impl.IsPoly(form) {
		t.Fatalf("of (%d, %d, %v) the root is %v, %d, and the form %v, %d", p, n, g, root, code, form, other)
	}
	return root, form
}

// inMirror lists all sums of multiples of the points of a mirror.
func inMirror(p int64, n int64, mirror [][]int64) [][]int64 {
	list := [][]int64{zeros(int(n))}
	for _, row := range mirror {
		var longer [][]int64
		for _, point := range list {
			for k := range p {
				next := timesPoint(p, k, row)
				for i := range next {
					next[i] = (next[i] + point[i]) % p
				}
				longer = append(longer, next)
			}
		}
		list = longer
	}
	return list
}

// reflectionNumbers returns the numbers of the Elements that are reflections.
func reflectionNumbers(t *testing.T, g impl.Group) []int64 {
	t.Helper()
	numbers, code := impl.ReflectionsOf(g)
	if code != impl.ErrNone || !slices.IsSorted(numbers) {
		t.Fatalf("ReflectionsOf(%v) = %v, %d", g, numbers, code)
	}
	return numbers
}

// forReflectionsOfGroups calls a check with the reflections of many groups, and with random ones.
func forReflectionsOfGroups(t *testing.T, check func(p int64, n int64, g impl.Matrix)) {
	t.Helper()
	manyGroups(t, func(g impl.Group) {
		for _, number := range reflectionNumbers(t, g) {
			check(g.Prime, g.Size, g.Elements[number])
		}
	})
	forReflections(func(p int64, n int64, g impl.Matrix, _ []int64, _ []int64) { check(p, n, g) })
}

// TestPromise6Mirrors finds that reflections leave all points of their mirrors, and no others.
func TestPromise6Mirrors(t *testing.T) {
	found := 0
	forReflectionsOfGroups(t, func(p int64, n int64, g impl.Matrix) {
		found++
		mirror := mirrorOf(t, p, n, g)
		if int64(len(mirror)) != n-1 {
			t.Fatalf("MirrorOf(%d, %d, %v) = %v", p, n, g, mirror)
		}
		left := inMirror(p, n, mirror)
		for _, point := range left {
			if !slices.Equal(led(p, n, g, point), point) {
				t.Fatalf("%v does not leave %v of its mirror %v", g, point, mirror)
			}
		}
		count := 0
		for _, point := range points(p, n) {
			if slices.Equal(led(p, n, g, point), point) {
				count++
			}
		}
		if count != len(left) {
			t.Fatalf("%v leaves %d points, and the mirror %v has %d", g, count, mirror, len(left))
		}
	})
	if found < 500 {
		t.Errorf("%d reflections", found)
	}
}

// TestReflectionsByPoints looks at what matrices of all kinds make of all points.
func TestReflectionsByPoints(t *testing.T) {
	found, others := 0, 0
	forMatrices(func(p int64, n int64, g impl.Matrix) {
		what := fmt.Sprintf("(%d, %d, %v)", p, n, g)
		wantRoot, want := rootByPoints(p, n, g)
		yes, code := impl.IsReflection(p, n, g)
		wantBool(t, "IsReflection"+what, yes, code, want)
		mirror, code := impl.MirrorOf(p, n, g)
		wantLists(t, "MirrorOf"+what, mirror, code, mirrorByPoints(p, n, g), impl.ErrNone)
		root, code := impl.RootOfReflection(p, n, g)
		form, other := impl.FormOfReflection(p, n, g)
		if !want {
			others++
			wantNumbers(t, "RootOfReflection"+what, root, code, nil, impl.ErrState)
			wantNoPoly(t, "FormOfReflection"+what, form, other, impl.ErrState)
			return
		}
		found++
		wantNumbers(t, "RootOfReflection"+what, root, code, wantRoot, impl.ErrNone)
		if other != impl.ErrNone || !isFormByPoints(p, n, g, wantRoot, form) {
			t.Fatalf("FormOfReflection%s = %v, %d", what, form, other)
		}
	})
	if found < 1000 || others < 1000 {
		t.Errorf("%d reflections and %d others", found, others)
	}
}

// TestRootsAndForms finds the root and the form that a reflection is made of; roots stand on the mirror
// for reflections of the order p alone, and inverses have the same root, form and mirror.
func TestRootsAndForms(t *testing.T) {
	transvections := 0
	forReflections(func(p int64, n int64, g impl.Matrix, formNumbers []int64, rootNumbers []int64) {
		root, form := rootAndForm(t, p, n, g)
		wantForm, wantRoot := reducedByHand(p, [][]int64{formNumbers})[0], reducedByHand(p, [][]int64{rootNumbers})[0]
		if !slices.Equal(root, wantRoot) || !samePoly(form, polyByHand(p, n, 1, wantForm)) {
			t.Fatalf("of (%d, %d, %v) the root is %v and the form %v", p, n, g, root, form)
		}
		order := orderByHand(p, n, g)
		if onMirror := value(t, form, root) == 0; onMirror != (order == p) {
			t.Fatalf("%v of the order %d modulo %d has the root %v and the form %v", g, order, p, root, form)
		} else if onMirror {
			transvections++
		}
		inverse := powerOf(p, n, g, order-1)
		backRoot, backForm := rootAndForm(t, p, n, inverse)
		if !slices.Equal(backRoot, root) || !samePoly(backForm, form) {
			t.Fatalf("of the inverse of %v the root is %v and the form %v", g, backRoot, backForm)
		}
	})
	if transvections < 50 {
		t.Errorf("%d reflections of the order p", transvections)
	}
}

// TestPromise13Forms finds that forms are 0 on mirrors, and nowhere else.
func TestPromise13Forms(t *testing.T) {
	forReflectionsOfGroups(t, func(p int64, n int64, g impl.Matrix) {
		_, form := rootAndForm(t, p, n, g)
		mirror := mirrorOf(t, p, n, g)
		left := inMirror(p, n, mirror)
		for _, point := range left {
			if value(t, form, point) != 0 {
				t.Fatalf("the form %v of %v is not 0 at %v of the mirror", form, g, point)
			}
		}
		for _, point := range somePoints(p, n) {
			isLeft := slices.Equal(led(p, n, g, point), point)
			if (value(t, form, point) == 0) != isLeft {
				t.Fatalf("the form %v of %v has the value %d at %v", form, g, value(t, form, point), point)
			}
		}
	})
}

// mirrorProduct returns the mirror product of a group, and whether there are no more reflections than
// MaxForms; there is no other error.
func mirrorProduct(t *testing.T, g impl.Group) (impl.Poly, bool) {
	t.Helper()
	f, code := impl.MirrorProduct(g)
	if code != impl.ErrNone && (code != impl.ErrLimit || !isZeroPoly(f)) {
		t.Fatalf("MirrorProduct(%v) = %v, %d", g, f, code)
	}
	return f, code == impl.ErrNone
}

// reflectedGroups calls a check with groups of all kinds, and with those that have many reflections.
func reflectedGroups(t *testing.T, check func(g impl.Group)) {
	t.Helper()
	manyGroups(t, check)
	for _, g := range []impl.Group{
		shears(13), shears(11), overturned(shears(13)), groupWith(3, 3, unipotents(3)...), overturned(groupWith(3, 3, unipotents(3)...)),
		specialLinear(), dihedral24(), dihedral26(), twoDiagonals(13, 2, 12), twoDiagonals(13, 2, 3), twoDiagonals(7, 3, 3),
		signedTurns(3), signedTurns(11), diagonalGroup(5, 2, 4), diagonalGroup(13, 2, 4, 8), powersOf(11, 2),
	} {
		check(g)
	}
}

// TestPromise13Products multiplies the forms of all reflections, in the order of the Elements, and finds
// that the product is semi-invariant: by its character, and by values at points.
func TestPromise13Products(t *testing.T) {
	found, refused := 0, 0
	reflectedGroups(t, func(g impl.Group) {
		var forms []impl.Poly
		for _, number := range reflectionsByHand(g) {
			_, form := rootAndForm(t, g.Prime, g.Size, g.Elements[number])
			forms = append(forms, form)
		}
		f, ok := mirrorProduct(t, g)
		if ok != (len(forms) <= impl.MaxForms) {
			t.Fatalf("MirrorProduct(%v) = %v, of %d forms", g, f, len(forms))
		}
		if !ok {
			refused++
			return
		}
		found++
		wantPoly(t, fmt.Sprintf("MirrorProduct(%v)", g), f, impl.ErrNone, multiplied(built(g.Prime, g.Size), forms))
		character, code := impl.CharacterOf(g, f)
		if code != impl.ErrNone {
			t.Fatalf("CharacterOf(%v, %v): code %d", g, f, code)
		}
		for _, point := range somePoints(g.Prime, g.Size) {
			for i, x := range g.Elements {
				if value(t, f, led(g.Prime, g.Size, x, point)) != character[i]*value(t, f, point)%g.Prime {
					t.Fatalf("%v leads the product %v of %v to no multiple by %d", x, f, g, character[i])
				}
			}
		}
		checkCharacter(t, g, character)
	})
	if found < 300 || refused < 3 {
		t.Errorf("%d products, and %d are refused", found, refused)
	}
}

// TestReflectionGroupsByHand finds reflections, and the groups that they make, apart from the program.
func TestReflectionGroupsByHand(t *testing.T) {
	made, others := 0, 0
	reflectedGroups(t, func(g impl.Group) {
		numbers := reflectionsByHand(g)
		list, code := impl.ReflectionsOf(g)
		wantNumbers(t, fmt.Sprintf("ReflectionsOf(%v)", g), list, code, numbers, impl.ErrNone)
		want := madeByHand(g, numbers)
		part, code := impl.ReflectionGroup(g)
		wantGroup(t, fmt.Sprintf("ReflectionGroup(%v)", g), part, code, want)
		yes, code := impl.IsMadeByReflections(g)
		wantBool(t, fmt.Sprintf("IsMadeByReflections(%v)", g), yes, code, sameGroup(want, g))
		if yes {
			made++
		} else {
			others++
		}
		// Conjugates of reflections are reflections: the group that they make has the same ones.
		again, code := impl.ReflectionGroup(part)
		wantGroup(t, "ReflectionGroup again", again, code, part)
		if !impl.IsGroup(part) || len(reflectionNumbers(t, part)) != len(numbers) {
			t.Fatalf("ReflectionGroup(%v) = %v", g, part)
		}
	})
	if made < 100 || others < 100 {
		t.Errorf("%d groups are made by reflections, %d are not", made, others)
	}
}

// TestDegreesByHand asks for degrees of all kinds, many of which have the right product or the right sum.
func TestDegreesByHand(t *testing.T) {
	r := rand.New(rand.NewSource(44))
	fits, products, sums := 0, 0, 0
	reflectedGroups(t, func(g impl.Group) {
		modular := int64(len(g.Elements))%g.Prime == 0
		order, count := int64(len(g.Elements)), int64(len(reflectionsByHand(g)))
		for range 100 {
			degrees := randomDegrees(r, int(g.Size), min(order, impl.MaxOrder))
			product, sum := int64(1), int64(0)
			for _, d := range degrees {
				product *= d
				sum += d - 1
			}
			yes, code := impl.DoDegreesFit(g, degrees)
			what := fmt.Sprintf("DoDegreesFit(%v, %v)", g, degrees)
			if modular {
				wantZero(t, what, !yes, code, impl.ErrState)
				continue
			}
			wantBool(t, what, yes, code, product == order && sum == count)
			switch {
			case yes:
				fits++
			case product == order:
				products++
			case sum == count:
				sums++
			}
		}
	})
	if fits < 100 || products < 100 || sums < 100 {
		t.Errorf("%d fit, %d have the right product only, %d the right sum only", fits, products, sums)
	}
}

// namedDegrees are those of the groups with names that are made by reflections. For 2 those that change
// signs alone have one element.
func namedDegrees(name string, p int64) []int64 {
	switch name {
	case "sign":
		if p == 2 {
			return []int64{1}
		}
		return []int64{2}
	case "minus":
		return []int64{1, 1}
	case "signs":
		if p == 2 {
			return []int64{1, 1}
		}
		return []int64{2, 2}
	case "swap":
		return []int64{1, 2}
	case "square":
		return []int64{2, 4}
	case "triangle":
		return []int64{2, 3}
	case "symmetric":
		return []int64{1, 2, 3}
	case "cube":
		return []int64{2, 4, 6}
	}
	return []int64{1}
}

// TestDegreesOfNamedGroups finds that the degrees of groups with names that are made by reflections fit.
func TestDegreesOfNamedGroups(t *testing.T) {
	found := 0
	for _, p := range primes {
		for _, name := range groupNames {
			g := named(t, name, p)
			made, code := impl.IsMadeByReflections(g)
			want := name != "turn" && (name != "minus" || p == 2)
			wantBool(t, fmt.Sprintf("IsMadeByReflections of %q for %d", name, p), made, code, want)
			if !made {
				continue
			}
			yes, code := impl.DoDegreesFit(g, namedDegrees(name, p))
			what := fmt.Sprintf("DoDegreesFit of %q for %d", name, p)
			if int64(len(g.Elements))%p == 0 {
				wantZero(t, what, !yes, code, impl.ErrState)
				continue
			}
			found++
			wantBool(t, what, yes, code, true)
		}
	}
	if found < 40 {
		t.Errorf("%d groups with degrees", found)
	}
}

// TestGeneratorsAndMirrors takes groups that are not modular and have generators, as many as letters, the
// degrees of which have the order as their product: the degrees fit, the groups are made by reflections,
// and the Jacobian of the generators is a multiple of the mirror product.
func TestGeneratorsAndMirrors(t *testing.T) {
	found := 0
	reflectedGroups(t, func(g impl.Group) {
		list, ok := generators(t, g, impl.MaxSpace)
		product := int64(1)
		for _, d := range degreesOf(list) {
			product *= d
		}
		if order := int64(len(g.Elements)); !ok || int64(len(list)) != g.Size || product != order || order%g.Prime == 0 {
			return
		}
		found++
		yes, code := impl.DoDegreesFit(g, degreesOf(list))
		wantBool(t, fmt.Sprintf("DoDegreesFit(%v, %v)", g, degreesOf(list)), yes, code, true)
		made, code := impl.IsMadeByReflections(g)
		wantBool(t, fmt.Sprintf("IsMadeByReflections(%v)", g), made, code, true)
		jacobian, code := impl.JacobianOf(list)
		forms, ok := mirrorProduct(t, g)
		if code != impl.ErrNone || !ok || len(jacobian.Terms) == 0 {
			t.Fatalf("JacobianOf(%v) = %v, %d, MirrorProduct(%v) = %v", list, jacobian, code, g, forms)
		}
		k := jacobian.Terms[0].Value
		if forms.Terms[0].Value != 1 || !samePoly(jacobian, summed(forms, []impl.Poly{forms}, k)) {
			t.Fatalf("JacobianOf(%v) = %v is no multiple of MirrorProduct(%v) = %v", list, jacobian, g, forms)
		}
	})
	if found < 50 {
		t.Errorf("%d groups with generators", found)
	}
}

// TestJacobiansOfLinearPolynomials finds the determinants of their numbers, and what becomes of a Jacobian
// when letters are led elsewhere: it is led too, and multiplied by the determinant.
func TestJacobiansOfLinearPolynomials(t *testing.T) {
	r := rand.New(rand.NewSource(45))
	for _, p := range primes {
		for n := int64(1); n <= 3; n++ {
			for range 20 {
				g := randomMatrix(r, p, n)
				determinant := opened(n, g).determinant(p)
				var letters, list, there []impl.Poly
				for _, row := range opened(n, unitOf(n)) {
					letters = append(letters, lead(t, g, polyByHand(p, n, 1, row)))
					list = append(list, randomPoly(r, p, n, 1+r.Int63n(4)))
				}
				f, code := impl.JacobianOf(letters)
				wantPoly(t, fmt.Sprintf("JacobianOf(%v)", letters), f, code, built(p, n, term(determinant)))
				for _, f := range list {
					there = append(there, lead(t, g, f))
				}
				f, code = impl.JacobianOf(list)
				if code != impl.ErrNone {
					t.Fatalf("JacobianOf(%v): code %d", list, code)
				}
				moved := lead(t, g, f)
				f, code = impl.JacobianOf(there)
				wantPoly(t, fmt.Sprintf("JacobianOf(%v)", there), f, code, summed(moved, []impl.Poly{moved}, determinant))
			}
		}
	}
}

// TestPromise6Dickson leads Dickson invariants by all matrices.
func TestPromise6Dickson(t *testing.T) {
	for _, size := range dicksonSizes() {
		p, n := size[0], size[1]
		for i := range n {
			f := dickson(t, p, n, i)
			found := 0
			forTables(p, n, func(g impl.Matrix) {
				if opened(n, g).determinant(p) == 0 {
					return
				}
				found++
				if there := lead(t, g, f); !samePoly(there, f) {
					t.Fatalf("%v leads DicksonInvariant(%d, %d, %d) = %v to %v", g, p, n, i, f, there)
				}
			})
			if found == 0 || len(f.Terms) == 0 {
				t.Fatalf("%d matrices for %v", found, size)
			}
		}
	}
}

// TestDicksonOfGroups finds Dickson invariants invariant for groups of their sizes.
func TestDicksonOfGroups(t *testing.T) {
	sizes := dicksonSizes()
	manyGroups(t, func(g impl.Group) {
		if !slices.Contains(sizes, [2]int64{g.Prime, g.Size}) {
			return
		}
		for i := range g.Size {
			wantInvariant(t, "DicksonInvariant", g, dickson(t, g.Prime, g.Size, i))
		}
	})
}

// TestDicksonInvariantsAtSums puts the sums of multiples of letters in for T: the product of T + v has all
// of them as roots, so that T^(p^n) and the powers of T with their coefficients make 0.
func TestDicksonInvariantsAtSums(t *testing.T) {
	for _, size := range dicksonSizes() {
		p, n := size[0], size[1]
		all := points(p, n)
		if len(all) > impl.MaxDegree {
			continue
		}
		for _, numbers := range all {
			v := polyByHand(p, n, 1, numbers)
			whole := built(p, n)
			exponent := int64(1)
			for i := range n {
				power, code := impl.PowerPoly(v, exponent)
				if code != impl.ErrNone {
					t.Fatalf("PowerPoly(%v, %d): code %d", v, exponent, code)
				}
				whole = sum(t, whole, product(t, dickson(t, p, n, i), power), 1)
				exponent *= p
			}
			power, code := impl.PowerPoly(v, exponent)
			wantPoly(t, fmt.Sprintf("0 of %v for %v", v, size), sum(t, whole, power, 1), code, built(p, n))
		}
	}
}
