package tests

import (
	"fmt"
	"math/rand"
	"slices"
	"testing"

	"loop.example/g01285/impl"
)

// TestPromise10Duals finds duals by hand, and duals of duals as the codes.
func TestPromise10Duals(t *testing.T) {
	forCodes(120, func(r *rand.Rand, c impl.Code) {
		dual, code := impl.DualCode(c)
		wantCode(t, fmt.Sprintf("DualCode(%v)", c), dual, code, dualByHand(c))
		if !impl.IsCode(dual) || len(dual.Rows)+len(c.Rows) != int(c.Length) {
			t.Fatalf("DualCode(%v) = %v", c, dual)
		}
		for _, word := range dual.Rows {
			for _, other := range c.Rows {
				if productOfRows(c.Prime, word, other) != 0 {
					t.Fatalf("DualCode(%v) has the word %v", c, word)
				}
			}
		}
		again, code := impl.DualCode(dual)
		wantCode(t, fmt.Sprintf("DualCode of DualCode(%v)", c), again, code, c)
	})
}

// TestPromise10DualsByWords tries all rows of few numbers, with the products of all words.
func TestPromise10DualsByWords(t *testing.T) {
	forFewWords(121, 200, func(r *rand.Rand, c impl.Code) {
		if wordCount(namedByHand("all", c.Prime, c.Length)) <= 2500 {
			wantCode(t, fmt.Sprintf("DualCode(%v)", c), dualOf(t, c), impl.ErrNone, dualByWords(c))
		}
	})
}

// TestPromise10Shortened finds duals of shortened codes as punctured duals, and duals of punctured codes as shortened
// duals, at all places.
func TestPromise10Shortened(t *testing.T) {
	forCodes(122, func(_ *rand.Rand, c impl.Code) {
		if c.Length == 1 {
			return
		}
		dual := dualOf(t, c)
		for i := range c.Length {
			shortened, punctured := shorten(t, c, i), puncture(t, c, i)
			if !impl.IsCode(shortened) || !impl.IsCode(punctured) {
				t.Fatalf("%v becomes %v and %v at %d", c, shortened, punctured, i)
			}
			wantCode(t, fmt.Sprintf("the dual of ShortenCode(%v, %d)", c, i), dualOf(t, shortened), impl.ErrNone, puncture(t, dual, i))
			wantCode(t, fmt.Sprintf("the dual of PunctureCode(%v, %d)", c, i), dualOf(t, punctured), impl.ErrNone, shorten(t, dual, i))
		}
	})
}

// TestPlacesByWords takes a number from all words.
func TestPlacesByWords(t *testing.T) {
	forFewWords(123, 400, func(_ *rand.Rand, c impl.Code) {
		for i := range c.Length {
			if c.Length > 1 {
				wantCode(t, fmt.Sprintf("PunctureCode(%v, %d)", c, i), puncture(t, c, i), impl.ErrNone, puncturedByWords(c, i))
				wantCode(t, fmt.Sprintf("ShortenCode(%v, %d)", c, i), shorten(t, c, i), impl.ErrNone, shortenedByWords(c, i))
			}
		}
	})
}

// TestPromise14Weights finds the transforms of weights as the weights of duals, where these have few enough words, and
// as transforms by hand everywhere.
func TestPromise14Weights(t *testing.T) {
	found, transforms := 0, 0
	forCodes(124, func(_ *rand.Rand, c impl.Code) {
		weights, ok := weightsOf(t, c)
		if !ok {
			return
		}
		transforms++
		transform, code := impl.TransformWeights(c.Prime, weights)
		byHand, whole := transformByHand(c.Prime, weights)
		what := fmt.Sprintf("TransformWeights(%d, %v)", c.Prime, weights)
		wantNumbers(t, what, transform, code, byHand, impl.ErrNone)
		if !whole || total(transform) != wordCount(dualOf(t, c)) {
			t.Fatalf("%s = %v", what, transform)
		}
		if dual, ok := weightsOf(t, dualOf(t, c)); ok {
			found++
			wantNumbers(t, what, transform, code, dual, impl.ErrNone)
			wantNumbers(t, "the transform of it", transformed(t, c.Prime, transform), impl.ErrNone, weights, impl.ErrNone)
		}
	})
	if found < 200 || transforms < 250 {
		t.Errorf("%d transforms, %d with duals of few words", transforms, found)
	}
}

// TestWeightsByWords counts words by hand, and looks for the least weight.
func TestWeightsByWords(t *testing.T) {
	alone := 0
	forFewWords(125, 3000, func(_ *rand.Rand, c impl.Code) {
		weights, code := impl.WeightsOf(c)
		wantNumbers(t, fmt.Sprintf("WeightsOf(%v)", c), weights, code, weightsByHand(c), impl.ErrNone)
		distance, code := impl.DistanceOf(c)
		least, ok := distanceByHand(c)
		if !ok {
			alone++
			wantNumber(t, fmt.Sprintf("DistanceOf(%v)", c), distance, code, 0, impl.ErrState)
			return
		}
		wantNumber(t, fmt.Sprintf("DistanceOf(%v)", c), distance, code, least, impl.ErrNone)
	})
	if alone < 60 {
		t.Errorf("%d codes have 0 alone", alone)
	}
}

// TestTransformsByHand takes random lists, most of them of few small numbers, some with the greatest ones.
func TestTransformsByHand(t *testing.T) {
	r := rand.New(rand.NewSource(126))
	found, refused := 0, 0
	for _, p := range primes {
		for count := 2; count <= impl.MaxLength+1; count++ {
			for range 60 {
				list := zeros(count)
				most := []int64{2, 3, 100000001}[r.Intn(3)]
				for range 1 + r.Intn(count) {
					list[r.Intn(count)] = r.Int63n(most)
				}
				if r.Intn(3) == 0 {
					// Lists with one number other than 0 have transforms of whole numbers; few others have.
					list = begun(count, 1+r.Int63n(100000000))
				}
				if total(list) == 0 {
					continue
				}
				want, whole := transformByHand(p, list)
				transform, code := impl.TransformWeights(p, list)
				what := fmt.Sprintf("TransformWeights(%d, %v)", p, list)
				if whole {
					found++
					wantNumbers(t, what, transform, code, want, impl.ErrNone)
				} else {
					refused++
					wantNumbers(t, what, transform, code, nil, impl.ErrState)
				}
			}
		}
	}
	if found < 1000 || refused < 1000 {
		t.Errorf("%d transforms, %d refused", found, refused)
	}
}

// TestExtendedByWords puts a number behind all words. All words of extended codes add up to 0: they are words of the
// code even, and without the last number they are those that there were.
func TestExtendedByWords(t *testing.T) {
	forFewWords(127, 400, func(_ *rand.Rand, c impl.Code) {
		extended, code := impl.ExtendCode(c)
		if c.Length == impl.MaxLength {
			wantNoCode(t, fmt.Sprintf("ExtendCode(%v)", c), extended, code, impl.ErrLimit)
			return
		}
		wantCode(t, fmt.Sprintf("ExtendCode(%v)", c), extended, code, extendedByWords(c))
		even := namedCode(t, "even", c.Prime, c.Length+1)
		for _, word := range wordsByHand(extended) {
			if !isWord(t, even, word) || total(word)%c.Prime != 0 {
				t.Fatalf("ExtendCode(%v) has the word %v", c, word)
			}
		}
		wantCode(t, "the extended code, punctured", puncture(t, extended, c.Length), impl.ErrNone, c)
	})
}

// TestExtendedRows takes codes with many words, too.
func TestExtendedRows(t *testing.T) {
	forCodes(128, func(_ *rand.Rand, c impl.Code) {
		if c.Length == impl.MaxLength {
			return
		}
		extended := extend(t, c)
		if !impl.IsCode(extended) || len(extended.Rows) != len(c.Rows) {
			t.Fatalf("ExtendCode(%v) = %v", c, extended)
		}
		even := namedCode(t, "even", c.Prime, c.Length+1)
		for _, word := range extended.Rows {
			if !isWord(t, even, word) {
				t.Fatalf("ExtendCode(%v) has the row %v", c, word)
			}
		}
	})
}

// TestSumsByWords puts all words of a code behind all words of another one, and multiplies enumerators.
func TestSumsByWords(t *testing.T) {
	found := 0
	forFewWords(129, 30, func(r *rand.Rand, c impl.Code) {
		n := 1 + r.Int63n(impl.MaxLength)
		d := codeByHand(c.Prime, n, randomRows(r, c.Prime, n, r.Intn(2)))
		both, code := impl.AddCodes(c, d)
		what := fmt.Sprintf("AddCodes(%v, %v)", c, d)
		if c.Length+n > impl.MaxLength {
			wantNoCode(t, what, both, code, impl.ErrLimit)
			return
		}
		found++
		wantCode(t, what, both, code, summedByWords(c, d))
		wantCode(t, what+", its dual", dualOf(t, both), impl.ErrNone, sumOfCodes(t, dualOf(t, c), dualOf(t, d)))
		first, _ := weightsOf(t, c)
		second, _ := weightsOf(t, d)
		all, _ := weightsOf(t, both)
		for _, q := range primes {
			f := product(t, enumerator(t, q, first), enumerator(t, q, second))
			wantPoly(t, what+", its enumerator", enumerator(t, q, all), impl.ErrNone, f)
		}
	})
	if found < 100 {
		t.Errorf("%d sums", found)
	}
}

// TestEnumeratorsOfDuals puts x + (p - 1) y and x - y into enumerators: that is as many times the enumerators of the
// duals as there are words.
func TestEnumeratorsOfDuals(t *testing.T) {
	found := 0
	forFewWords(130, impl.MaxWords, func(_ *rand.Rand, c impl.Code) {
		weights, _ := weightsOf(t, c)
		dual, ok := weightsOf(t, dualOf(t, c))
		if !ok {
			return
		}
		found++
		for _, q := range primes {
			letters := []impl.Poly{
				table{{1}: 1, {0, 1}: (c.Prime - 1) % q}.poly(q, 2),
				table{{1}: 1, {0, 1}: q - 1}.poly(q, 2),
			}
			want := sum(t, built(q, 2), enumerator(t, q, dual), wordCount(c)%q)
			f, code := impl.SubstitutePoly(enumerator(t, q, weights), letters)
			wantPoly(t, fmt.Sprintf("the substitution for %v modulo %d", c, q), f, code, want)
		}
	})
	if found < 200 {
		t.Errorf("%d codes", found)
	}
}

// TestWordsByHand finds all words, and nothing else: neither among words with another number at one place, nor among
// all rows of few numbers.
func TestWordsByHand(t *testing.T) {
	forFewWords(131, 400, func(r *rand.Rand, c impl.Code) {
		list, words := wordsByHand(c), map[string]bool{}
		for _, word := range list {
			words[fmt.Sprint(word)] = true
		}
		if len(words) != int(wordCount(c)) {
			t.Fatalf("%v has %d words", c, len(words))
		}
		asked := slices.Clone(list)
		for _, word := range list {
			i, changed := r.Intn(len(word)), slices.Clone(word)
			changed[i] = (changed[i] + 1 + r.Int63n(c.Prime-1)) % c.Prime
			asked = append(asked, changed)
		}
		if wordCount(namedByHand("all", c.Prime, c.Length)) <= 2500 {
			asked = append(asked, points(c.Prime, c.Length)...)
		}
		for _, word := range asked {
			yes, code := impl.IsWordOf(c, word)
			wantBool(t, fmt.Sprintf("IsWordOf(%v, %v)", c, word), yes, code, words[fmt.Sprint(word)])
		}
	})
}

// TestCodesOfRows makes codes of random rows, in any order: all rows are words, and no code is less.
func TestCodesOfRows(t *testing.T) {
	r := rand.New(rand.NewSource(132))
	for _, p := range primes {
		for n := int64(1); n <= impl.MaxLength; n++ {
			for count := range 13 {
				rows := randomRows(r, p, n, count)
				c, code := impl.CodeOf(p, n, rows)
				wantCode(t, fmt.Sprintf("CodeOf(%d, %d, %v)", p, n, rows), c, code, codeByHand(p, n, rows))
				if !impl.IsCode(c) || !isReduced(c.Rows) || len(c.Rows) != rankByHand(p, slices.Clone(rows)) {
					t.Fatalf("CodeOf(%d, %d, %v) = %v", p, n, rows, c)
				}
				for _, word := range rows {
					if !isWord(t, c, word) {
						t.Fatalf("CodeOf(%d, %d, %v) = %v does not have %v", p, n, rows, c, word)
					}
				}
				r.Shuffle(len(rows), func(i, j int) { rows[i], rows[j] = rows[j], rows[i] })
				again, code := impl.CodeOf(p, n, rows)
				wantCode(t, fmt.Sprintf("CodeOf(%d, %d, %v)", p, n, rows), again, code, c)
			}
		}
	}
}

// TestIsCodeByHand changes one number of codes.
func TestIsCodeByHand(t *testing.T) {
	codes, others := 0, 0
	forCodes(133, func(r *rand.Rand, c impl.Code) {
		if !impl.IsCode(c) {
			t.Fatalf("IsCode(%v) = false", c)
		}
		for i := range c.Rows {
			d := codeWith(c.Prime, c.Length)
			for _, word := range c.Rows {
				d.Rows = append(d.Rows, slices.Clone(word))
			}
			d.Rows[i][r.Int63n(c.Length)] = r.Int63n(c.Prime)
			yes := impl.IsCode(d)
			if yes != isReduced(d.Rows) {
				t.Fatalf("IsCode(%v) = %v", d, yes)
			}
			if yes {
				codes++
			} else {
				others++
			}
		}
	})
	if codes < 300 || others < 300 {
		t.Errorf("%d codes, and %d others", codes, others)
	}
}

// TestSelfDualByHand takes random codes with half as many rows as numbers, and codes of pairs of numbers that are
// self dual wherever the square of a number is -1.
func TestSelfDualByHand(t *testing.T) {
	found, others := 0, 0
	check := func(c impl.Code) {
		yes, code := impl.IsSelfDual(c)
		want := sameCode(dualByHand(c), c)
		wantBool(t, fmt.Sprintf("IsSelfDual(%v)", c), yes, code, want)
		if want {
			found++
		} else {
			others++
		}
	}
	forCodes(134, func(_ *rand.Rand, c impl.Code) { check(c) })
	r := rand.New(rand.NewSource(135))
	for _, p := range primes {
		for n := int64(2); n <= impl.MaxLength; n += 2 {
			for range 20 {
				number := 1 + r.Int63n(p-1)
				if roots := map[int64]int64{2: 1, 5: 2, 13: 5}; roots[p] > 0 && r.Intn(4) > 0 {
					number = roots[p]
				}
				order := r.Perm(int(n))
				var rows [][]int64
				for i := range n / 2 {
					word := zeros(int(n))
					word[order[2*i]], word[order[2*i+1]] = 1, number
					rows = append(rows, word)
				}
				check(codeByHand(p, n, rows))
			}
		}
	}
	if found < 150 || others < 300 {
		t.Errorf("%d codes are self dual, and %d are not", found, others)
	}
}

// TestNamedCodes holds the codes with names against each other.
func TestNamedCodes(t *testing.T) {
	duals := map[string]string{"repeat": "even", "even": "repeat", "all": "zero", "zero": "all"}
	for _, p := range primes {
		for n := int64(1); n <= impl.MaxLength; n++ {
			for name, other := range duals {
				c, d := namedCode(t, name, p, n), namedCode(t, other, p, n)
				wantCode(t, fmt.Sprintf("DualCode of %s for %d, %d", name, p, n), dualOf(t, c), impl.ErrNone, d)
				if n > 1 {
					wantCode(t, fmt.Sprintf("ShortenCode of %s for %d, %d", name, p, n), shorten(t, c, n-1), impl.ErrNone, dualOf(t, puncture(t, d, n-1)))
				}
			}
			if n < impl.MaxLength {
				all := namedCode(t, "all", p, n)
				wantCode(t, fmt.Sprintf("ExtendCode of all for %d, %d", p, n), extend(t, all), impl.ErrNone, namedCode(t, "even", p, n+1))
			}
			repeated, even := namedCode(t, "repeat", p, n), namedCode(t, "even", p, n)
			for k := range p {
				if !isWord(t, repeated, row(int(n), k)) || isWord(t, even, row(int(n), k)) != (n*k%p == 0) {
					t.Errorf("the words of n times %d are others, for %d, %d", k, p, n)
				}
			}
		}
	}
}

// TestCodesAtOnce asks from several goroutines: results depend on nothing but the arguments.
func TestCodesAtOnce(t *testing.T) {
	c := codeWith(3, 7, []int64{1, 0, 0, 2, 1, 0, 2}, []int64{0, 1, 0, 1, 1, 2, 0}, []int64{0, 0, 1, 0, 2, 2, 1})
	wantSameAtOnce(t, func() string {
		dual, a := impl.DualCode(c)
		weights, b := impl.WeightsOf(c)
		transform, d := impl.TransformWeights(3, weights)
		f, e := impl.EnumeratorOf(13, weights)
		both, g := impl.AddCodes(c, codeWith(3, 3, []int64{0, 1, 2}))
		short, h := impl.ShortenCode(c, 4)
		named, i := impl.NamedCode("even", 13, 10)
		return fmt.Sprint(dual, a, weights, b, transform, d, f, e, both, g, short, h, named, i)
	})
}
