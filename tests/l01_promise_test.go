package tests

import (
	"math/rand"
	"testing"

	"loop.example/g01285/impl"
)

// forPairs calls a check with random polynomials x and y that are alike, the degrees of which add
// up to at most MaxDegree, for each prime and each number of letters.
func forPairs(check func(x impl.Poly, y impl.Poly)) {
	r := rand.New(rand.NewSource(1))
	for _, p := range primes {
		for d := int64(1); d <= 3; d++ {
			for most := int64(0); most <= 6; most++ {
				check(randomPoly(r, p, d, most), randomPoly(r, p, d, impl.MaxDegree-most))
				check(randomPoly(r, p, d, most), randomPoly(r, p, d, most))
			}
			check(built(p, d), randomPoly(r, p, d, impl.MaxDegree))
			check(randomPoly(r, p, d, impl.MaxDegree), built(p, d))
		}
	}
}

// somePoints returns points at which polynomials are compared.
func somePoints(p int64, d int64) [][]int64 {
	list := points(p, d)
	r := rand.New(rand.NewSource(p*10 + d))
	for len(list) > 30 {
		i := r.Intn(len(list))
		list[i] = list[len(list)-1]
		list = list[:len(list)-1]
	}
	return list
}

// sum returns x and k times y together.
func sum(t *testing.T, x impl.Poly, y impl.Poly, k int64) impl.Poly {
	t.Helper()
	z, code := impl.AddPolys(x, y, k)
	if code != impl.ErrNone || !impl.IsPoly(z) {
		t.Fatalf("AddPolys(%v, %v, %d) = %v, %d", x, y, k, z, code)
	}
	return z
}

// product returns x times y.
func product(t *testing.T, x impl.Poly, y impl.Poly) impl.Poly {
	t.Helper()
	z, code := impl.MultiplyPolys(x, y)
	if code != impl.ErrNone || !impl.IsPoly(z) {
		t.Fatalf("MultiplyPolys(%v, %v) = %v, %d", x, y, z, code)
	}
	return z
}

// derivative returns the derivative of x in the letter i.
func derivative(t *testing.T, x impl.Poly, i int64) impl.Poly {
	t.Helper()
	z, code := impl.DerivativeOf(x, i)
	if code != impl.ErrNone || !impl.IsPoly(z) {
		t.Fatalf("DerivativeOf(%v, %d) = %v, %d", x, i, z, code)
	}
	return z
}

// value returns the value of x at a point.
func value(t *testing.T, x impl.Poly, point []int64) int64 {
	t.Helper()
	n, code := impl.ValueAt(x, point)
	if code != impl.ErrNone || n < 0 || n >= x.Prime {
		t.Fatalf("ValueAt(%v, %v) = %d, %d", x, point, n, code)
	}
	return n
}

func TestPromise1Products(t *testing.T) {
	forPairs(func(x impl.Poly, y impl.Poly) {
		xy := product(t, x, y)
		if yx := product(t, y, x); !samePoly(xy, yx) {
			t.Fatalf("%v times %v = %v, but %v in the other order", x, y, xy, yx)
		}
		if want := tableOf(x).times(x.Prime, tableOf(y)).poly(x.Prime, x.Vars); !samePoly(xy, want) {
			t.Fatalf("%v times %v = %v, want %v", x, y, xy, want)
		}
	})
}

func TestPromise1Derivatives(t *testing.T) {
	forPairs(func(x impl.Poly, y impl.Poly) {
		xy := product(t, x, y)
		for i := range x.Vars {
			left := derivative(t, xy, i)
			right := sum(t, product(t, derivative(t, x, i), y), product(t, x, derivative(t, y, i)), 1)
			if !samePoly(left, right) {
				t.Fatalf("derivative in the letter %d of %v times %v: %v, by the rule %v", i, x, y, left, right)
			}
			for j := range i {
				if ij, ji := derivative(t, left, j), derivative(t, derivative(t, xy, j), i); !samePoly(ij, ji) {
					t.Fatalf("derivatives in %d and %d of %v: %v and %v", i, j, xy, ij, ji)
				}
			}
		}
	})
	// The derivative of the letter i itself is 1, those of the others are 0.
	for d := int64(1); d <= 3; d++ {
		for i := range d {
			for j := range d {
				exps := make([]int64, d)
				exps[i] = 1
				x, _ := impl.MonomialOf(7, d, exps, 1)
				want := built(7, d)
				if i == j {
					want = built(7, d, term(1))
				}
				y, code := impl.DerivativeOf(x, j)
				wantPoly(t, "DerivativeOf of a letter", y, code, want)
			}
		}
	}
}

func TestPromise1Texts(t *testing.T) {
	comeBack := func(x impl.Poly) {
		text, code := impl.PolyText(x)
		if code != impl.ErrNone {
			t.Fatalf("PolyText(%v): code %d", x, code)
		}
		y, code := impl.ParsePoly(x.Prime, x.Vars, text)
		wantPoly(t, "ParsePoly "+text, y, code, x)
	}
	forPairs(func(x impl.Poly, y impl.Poly) {
		comeBack(x)
		comeBack(y)
	})
	for d := int64(1); d <= 3; d++ {
		for n := int64(0); n <= impl.MaxDegree; n++ {
			for _, e := range monomials(d, n) {
				for value := int64(1); value < 13; value++ {
					comeBack(built(13, d, impl.Term{Exps: e, Value: value}))
				}
			}
		}
	}
}

// TestPromise1TextsOnly takes short texts of all kinds: those that are accepted are texts of what
// they are parsed to.
func TestPromise1TextsOnly(t *testing.T) {
	letters := "01234xyz+"
	texts := []string{""}
	for from := 0; len(texts[from]) < 5; from++ {
		for i := range letters {
			texts = append(texts, texts[from]+letters[i:i+1])
		}
	}
	accepted := 0
	for _, s := range texts {
		x, code := impl.ParsePoly(3, 2, s)
		if code == impl.ErrSyntax && isZeroPoly(x) {
			continue
		}
		accepted++
		if back, textCode := impl.PolyText(x); code != impl.ErrNone || textCode != impl.ErrNone || back != s {
			t.Fatalf("ParsePoly(%q) = %v, %d with the text %q", s, x, code, back)
		}
	}
	if accepted != textsByHand() {
		t.Errorf("%d texts of at most 5 bytes, want %d", accepted, textsByHand())
	}
}

// textsByHand counts the polynomials modulo 3 in two letters that have texts of at most 5 bytes
// without the digits 5 to 9, by the lengths of the texts of monomials.
func textsByHand() int {
	sizes := map[byte]int{0: 0, 1: 1, 2: 2, 3: 2, 4: 2, 10: 3, 11: 3, 12: 3} // of a letter with its exponent
	var lengths []int
	for n := int64(0); n <= impl.MaxDegree; n++ {
		for _, e := range monomials(2, n) {
			ofX, hasX := sizes[e[0]]
			ofY, hasY := sizes[e[1]]
			if hasX && hasY {
				lengths = append(lengths, 1+ofX+ofY)
			}
		}
	}
	count := 1 // the text of 0
	var add func(from int, left int)
	add = func(from int, left int) {
		for i := from; i < len(lengths); i++ {
			if lengths[i] <= left {
				count += 2
				add(i+1, left-lengths[i]-1)
				add(i+1, left-lengths[i]-1)
			}
		}
	}
	add(0, 5)
	return count
}

func TestSumsAndValues(t *testing.T) {
	forPairs(func(x impl.Poly, y impl.Poly) {
		p := x.Prime
		for k := range p {
			z := sum(t, x, y, k)
			if want := tableOf(x).plus(p, k, tableOf(y)).poly(p, x.Vars); !samePoly(z, want) {
				t.Fatalf("%v and %d times %v = %v, want %v", x, k, y, z, want)
			}
		}
		xy := product(t, x, y)
		z := sum(t, x, y, p-1)
		for _, point := range somePoints(p, x.Vars) {
			a, b := value(t, x, point), value(t, y, point)
			if n := value(t, xy, point); n != a*b%p {
				t.Fatalf("value of %v times %v at %v: %d, want %d", x, y, point, n, a*b%p)
			}
			if n := value(t, z, point); n != (a+(p-1)*b)%p {
				t.Fatalf("value of %v less %v at %v: %d, want %d", x, y, point, n, (a+(p-1)*b)%p)
			}
		}
	})
}

func TestPartsAddUp(t *testing.T) {
	forPairs(func(x impl.Poly, _ impl.Poly) {
		all := built(x.Prime, x.Vars)
		highest := int64(-1)
		parts := 0
		for n := int64(0); n <= impl.MaxDegree; n++ {
			part, code := impl.PartOfDegree(x, n)
			if yes, _ := impl.IsHomogeneous(part); code != impl.ErrNone || !yes {
				t.Fatalf("PartOfDegree(%v, %d) = %v, %d", x, n, part, code)
			}
			if len(part.Terms) > 0 {
				highest = n
				parts++
			}
			all = sum(t, all, part, 1)
		}
		if !samePoly(all, x) {
			t.Fatalf("the parts of %v add up to %v", x, all)
		}
		if n, code := impl.DegreeOf(x); n != highest || code != impl.ErrNone {
			t.Fatalf("DegreeOf(%v) = %d, %d, want %d", x, n, code, highest)
		}
		if yes, code := impl.IsHomogeneous(x); yes != (parts <= 1) || code != impl.ErrNone {
			t.Fatalf("IsHomogeneous(%v) = %v, %d", x, yes, code)
		}
	})
}

func TestCoefficientsTellPolynomials(t *testing.T) {
	forPairs(func(x impl.Poly, _ impl.Poly) {
		m := tableOf(x)
		all := built(x.Prime, x.Vars)
		for n := int64(0); n <= impl.MaxDegree; n++ {
			for _, e := range monomials(x.Vars, n) {
				exps := []int64{int64(e[0]), int64(e[1]), int64(e[2])}[:x.Vars]
				k, code := impl.CoefficientAt(x, exps)
				wantNumber(t, "CoefficientAt", k, code, m[e], impl.ErrNone)
				one, code := impl.MonomialOf(x.Prime, x.Vars, exps, k)
				if code != impl.ErrNone {
					t.Fatalf("MonomialOf(%v): code %d", exps, code)
				}
				all.Terms = append(all.Terms, one.Terms...)
			}
		}
		if !samePoly(all, x) {
			t.Fatalf("the monomials of %v make %v", x, all)
		}
	})
}

func TestPowersAreProducts(t *testing.T) {
	r := rand.New(rand.NewSource(2))
	for _, p := range primes {
		for d := int64(1); d <= 3; d++ {
			for most := int64(-1); most <= 6; most++ {
				x := randomPoly(r, p, d, most)
				n, _ := impl.DegreeOf(x)
				want := built(p, d, term(1))
				for k := int64(0); k <= 12; k++ {
					y, code := impl.PowerPoly(x, k)
					if n*k > impl.MaxDegree {
						wantNoPoly(t, "PowerPoly", y, code, impl.ErrLimit)
						continue
					}
					wantPoly(t, "PowerPoly", y, code, want)
					want = tableOf(want).times(p, tableOf(x)).poly(p, d)
				}
			}
		}
	}
}

// substituted puts a list in for the letters, Term by Term.
func substituted(x impl.Poly, list []impl.Poly) impl.Poly {
	p := x.Prime
	all := table{}
	for _, s := range x.Terms {
		one := table{{}: s.Value}
		for i, y := range list {
			for range s.Exps[i] {
				one = one.times(p, tableOf(y))
			}
		}
		all = all.plus(p, 1, one)
	}
	return all.poly(p, list[0].Vars)
}

func TestSubstitutionsPutIn(t *testing.T) {
	r := rand.New(rand.NewSource(3))
	for _, p := range primes {
		for d := int64(1); d <= 3; d++ {
			for into := int64(1); into <= 3; into++ {
				for most := int64(0); most <= 4; most++ {
					x := randomPoly(r, p, d, most)
					var list []impl.Poly
					for range d {
						list = append(list, randomPoly(r, p, into, r.Int63n(3)))
					}
					y, code := impl.SubstitutePoly(x, list)
					wantPoly(t, "SubstitutePoly", y, code, substituted(x, list))
					for _, point := range somePoints(p, into) {
						var at []int64
						for _, z := range list {
							at = append(at, value(t, z, point))
						}
						if n := value(t, y, point); n != value(t, x, at) {
							t.Fatalf("value of %v in %v at %v: %d", list, x, point, n)
						}
					}
				}
			}
		}
	}
}

// TestSubstitutionOfAllMonomials puts sums of all letters in for the letters of a polynomial that
// has all monomials: the most Terms there can be, and back.
func TestSubstitutionOfAllMonomials(t *testing.T) {
	x := built(13, 3)
	for n := int64(0); n <= impl.MaxDegree; n++ {
		for _, e := range monomials(3, n) {
			x.Terms = append(x.Terms, impl.Term{Exps: e, Value: 1 + int64(len(x.Terms))%12})
		}
	}
	there := []impl.Poly{parsed(t, 13, 3, "1+1x+1y+1z"), parsed(t, 13, 3, "2+1y+1z"), parsed(t, 13, 3, "3+1z")}
	back := []impl.Poly{parsed(t, 13, 3, "1+1x+12y"), parsed(t, 13, 3, "1+1y+12z"), parsed(t, 13, 3, "10+1z")}
	y, code := impl.SubstitutePoly(x, there)
	if code != impl.ErrNone || !impl.IsPoly(y) || samePoly(x, y) {
		t.Fatalf("SubstitutePoly: code %d", code)
	}
	z, code := impl.SubstitutePoly(y, back)
	wantPoly(t, "SubstitutePoly there and back", z, code, x)
}
