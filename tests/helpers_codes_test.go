package tests

import (
	"fmt"
	"math"
	"math/big"
	"math/rand"
	"slices"
	"testing"

	"loop.example/g01285/impl"
)

// codeNames are those of the document.
var codeNames = []string{"repeat", "even", "all", "zero"}

// outsideLengths are numbers that no words have.
var outsideLengths = []int64{math.MinInt64, math.MinInt64 + 1, -256, -10, -1, 0, 11, 12, 100, 101, 255, 256, 257, 266, 1 << 32, 1<<32 + 1, 1<<32 + 10, math.MaxInt64}

// codeWith returns a code that is written down by its rows, checked or not.
func codeWith(p int64, n int64, rows ...[]int64) impl.Code {
	return impl.Code{Prime: p, Length: n, Rows: rows}
}

// sameCode compares codes; nil lists are empty ones.
func sameCode(c impl.Code, d impl.Code) bool {
	return c.Prime == d.Prime && c.Length == d.Length && slices.EqualFunc(c.Rows, d.Rows, slices.Equal)
}

// isZeroCode reports whether c is the zero value, as beside an error.
func isZeroCode(c impl.Code) bool {
	return sameCode(c, impl.Code{})
}

// wantCode checks a code with ErrNone.
func wantCode(t *testing.T, what string, c impl.Code, code int64, want impl.Code) {
	t.Helper()
	if code != impl.ErrNone || !sameCode(c, want) {
		t.Errorf("%s = %v, %d, want %v, 0", what, c, code, want)
	}
}

// wantNoCode checks an error and the zero value beside it.
func wantNoCode(t *testing.T, what string, c impl.Code, code int64, want int64) {
	t.Helper()
	if code != want || !isZeroCode(c) {
		t.Errorf("%s = %v, %d, want the zero value, %d", what, c, code, want)
	}
}

// codeByHand returns the code of rows, reduced one after the other.
func codeByHand(p int64, n int64, rows [][]int64) impl.Code {
	return codeWith(p, n, reducedByHand(p, rows)...)
}

// namedByHand returns the code with a name: rows of which its words are sums are put to a reduced list.
func namedByHand(name string, p int64, n int64) impl.Code {
	var rows [][]int64
	for i := range n {
		unit, ones := zeros(int(n)), row(int(n), 1)
		unit[i] = 1
		switch name {
		case "repeat":
			rows = append(rows, ones)
		case "all":
			rows = append(rows, unit)
		case "even":
			// One number once more, and the next one once less; that behind the last one is the first one.
			unit[(i+1)%n] += p - 1
			rows = append(rows, modulo(p, unit))
		}
	}
	return codeByHand(p, n, rows)
}

// wordsByHand lists all sums of multiples of the rows of a code: for each row it adds it once more to what there
// is, again and again.
func wordsByHand(c impl.Code) [][]int64 {
	words := [][]int64{zeros(int(c.Length))}
	for _, row := range c.Rows {
		latest := words
		for range c.Prime - 1 {
			var more [][]int64
			for _, word := range latest {
				more = append(more, plusRow(c.Prime, word, row))
			}
			words = append(words, more...)
			latest = more
		}
	}
	return words
}

// plusRow adds two rows.
func plusRow(p int64, a []int64, b []int64) []int64 {
	sum := slices.Clone(a)
	for i, number := range b {
		sum[i] = (sum[i] + number) % p
	}
	return sum
}

// productOfRows adds up the products of the numbers of two rows.
func productOfRows(p int64, a []int64, b []int64) int64 {
	sum := int64(0)
	for i, number := range a {
		sum += number * b[i]
	}
	return sum % p
}

// wordCount returns how many words a code has.
func wordCount(c impl.Code) int64 {
	count := int64(1)
	for range c.Rows {
		count *= c.Prime
	}
	return count
}

// weightByHand counts the numbers of a word other than 0.
func weightByHand(word []int64) int64 {
	weight := int64(0)
	for _, number := range word {
		if number != 0 {
			weight++
		}
	}
	return weight
}

// weightsByHand counts words by their weights.
func weightsByHand(c impl.Code) []int64 {
	weights := zeros(int(c.Length) + 1)
	for _, word := range wordsByHand(c) {
		weights[weightByHand(word)]++
	}
	return weights
}

// distanceByHand returns the least weight of the words other than 0, and whether there are any.
func distanceByHand(c impl.Code) (int64, bool) {
	least := c.Length + 1
	for _, word := range wordsByHand(c) {
		if weight := weightByHand(word); weight > 0 {
			least = min(least, weight)
		}
	}
	return least, least <= c.Length
}

// dualByHand solves what the rows ask of words.
func dualByHand(c impl.Code) impl.Code {
	return codeWith(c.Prime, c.Length, solvedByHand(c.Prime, int(c.Length), c.Rows)...)
}

// dualByWords takes all rows of n numbers, the products of which with all words are 0.
func dualByWords(c impl.Code) impl.Code {
	words := wordsByHand(c)
	var rows [][]int64
	for _, point := range points(c.Prime, c.Length) {
		differs := func(word []int64) bool { return productOfRows(c.Prime, word, point) != 0 }
		if !slices.ContainsFunc(words, differs) {
			rows = append(rows, point)
		}
	}
	return codeByHand(c.Prime, c.Length, rows)
}

// leftOut returns a word without the number at a place.
func leftOut(word []int64, i int64) []int64 {
	return slices.Delete(slices.Clone(word), int(i), int(i)+1)
}

// puncturedByWords leaves out the number at a place of all words.
func puncturedByWords(c impl.Code, i int64) impl.Code {
	var rows [][]int64
	for _, word := range wordsByHand(c) {
		rows = append(rows, leftOut(word, i))
	}
	return codeByHand(c.Prime, c.Length-1, rows)
}

// shortenedByWords takes the words with 0 at a place, without it.
func shortenedByWords(c impl.Code, i int64) impl.Code {
	var rows [][]int64
	for _, word := range wordsByHand(c) {
		if word[i] == 0 {
			rows = append(rows, leftOut(word, i))
		}
	}
	return codeByHand(c.Prime, c.Length-1, rows)
}

// extendedByWords puts that number behind each word that makes the sum 0, found by a search.
func extendedByWords(c impl.Code) impl.Code {
	var rows [][]int64
	for _, word := range wordsByHand(c) {
		for number := range c.Prime {
			if (total(word)+number)%c.Prime == 0 {
				rows = append(rows, append(slices.Clone(word), number))
			}
		}
	}
	return codeByHand(c.Prime, c.Length+1, rows)
}

// summedByWords puts each word of the second code behind each word of the first one.
func summedByWords(c impl.Code, d impl.Code) impl.Code {
	var rows [][]int64
	for _, word := range wordsByHand(c) {
		for _, other := range wordsByHand(d) {
			rows = append(rows, slices.Concat(word, other))
		}
	}
	return codeByHand(c.Prime, c.Length+d.Length, rows)
}

// shareByHand returns K(i, k) for the length n: j of the k letters come from the first i factors, the others from
// the n - i other ones.
func shareByHand(p int64, n int64, i int64, k int64) *big.Int {
	sum := new(big.Int)
	for j := range min(i, k) + 1 {
		if k-j > n-i {
			continue
		}
		part := new(big.Int).Exp(big.NewInt(p-1), big.NewInt(k-j), nil)
		part.Mul(part, new(big.Int).Binomial(i, j))
		part.Mul(part, new(big.Int).Binomial(n-i, k-j))
		if j%2 == 1 {
			part.Neg(part)
		}
		sum.Add(sum, part)
	}
	return sum
}

// transformByHand returns the transform of a list with a sum above 0, and whether all its numbers are whole.
func transformByHand(p int64, list []int64) ([]int64, bool) {
	n := int64(len(list)) - 1
	var transform []int64
	for k := range n + 1 {
		sum := new(big.Int)
		for i, number := range list {
			sum.Add(sum, new(big.Int).Mul(big.NewInt(number), shareByHand(p, n, int64(i), k)))
		}
		whole, rest := new(big.Int).QuoRem(sum, big.NewInt(total(list)), new(big.Int))
		if rest.Sign() != 0 {
			return nil, false
		}
		transform = append(transform, whole.Int64())
	}
	return transform, true
}

// enumeratorByHand returns the polynomial with the numbers of a list, from that of the greatest power of x on.
func enumeratorByHand(q int64, list []int64) impl.Poly {
	f := built(q, 2)
	for k, number := range modulo(q, list) {
		if number > 0 {
			f.Terms = append(f.Terms, term(number, byte(len(list)-1-k), byte(k)))
		}
	}
	return f
}

// noCodes are no codes, each for one reason.
func noCodes() map[string]impl.Code {
	codes := map[string]impl.Code{
		"the zero value":              {},
		"a row that begins with 2":    codeWith(5, 2, []int64{2, 1}),
		"a row that begins with -1":   codeWith(5, 2, []int64{-1, 1}),
		"a row of 0":                  codeWith(5, 2, []int64{0, 0}),
		"a row of 0 at the end":       codeWith(5, 2, []int64{1, 0}, []int64{0, 0}),
		"a row of 0 ahead":            codeWith(5, 2, []int64{0, 0}, []int64{1, 0}),
		"a row twice":                 codeWith(5, 2, []int64{1, 3}, []int64{1, 3}),
		"rows that begin together":    codeWith(5, 2, []int64{1, 0}, []int64{1, 1}),
		"rows that fall":              codeWith(5, 2, []int64{0, 1}, []int64{1, 0}),
		"rows of three that fall":     codeWith(2, 3, []int64{1, 0, 0}, []int64{0, 0, 1}, []int64{0, 1, 0}),
		"above a beginning":           codeWith(5, 2, []int64{1, 1}, []int64{0, 1}),
		"far above a beginning":       codeWith(3, 4, []int64{1, 0, 0, 2}, []int64{0, 1, 0, 0}, []int64{0, 0, 0, 1}),
		"below a beginning":           codeWith(5, 3, []int64{1, 0, 0}, []int64{1, 1, 0}),
		"more rows than numbers":      codeWith(5, 1, []int64{1}, []int64{1}),
		"three rows of two":           codeWith(5, 2, []int64{1, 0}, []int64{0, 1}, []int64{0, 0}),
		"a short row":                 codeWith(5, 2, []int64{1}),
		"a long row":                  codeWith(5, 2, []int64{1, 0, 0}),
		"an empty row":                codeWith(5, 2, []int64{}),
		"a nil row":                   codeWith(5, 2, nil),
		"a nil row at the end":        codeWith(5, 2, []int64{1, 0}, nil),
		"a short row at the end":      codeWith(5, 2, []int64{1, 0}, []int64{1}),
		"a long row at the end":       codeWith(5, 2, []int64{1, 0}, []int64{0, 1, 0}),
		"rows of one less":            codeWith(5, 3, []int64{1, 0}, []int64{0, 1}),
		"rows of one more":            codeWith(5, 2, []int64{1, 0, 0}, []int64{0, 1, 0}),
		"a number p":                  codeWith(5, 2, []int64{1, 5}),
		"a number p for 2":            codeWith(2, 2, []int64{1, 2}),
		"a number p + 1":              codeWith(5, 2, []int64{1, 6}),
		"a number p + 1 ahead":        codeWith(5, 2, []int64{6, 1}),
		"a number -1":                 codeWith(5, 2, []int64{1, -1}),
		"a number -p":                 codeWith(5, 2, []int64{1, -5}),
		"a number p ahead":            codeWith(5, 2, []int64{5, 1}),
		"a number -p ahead":           codeWith(5, 2, []int64{-5, 1}),
		"a number p at a beginning":   codeWith(5, 2, []int64{1, 5}, []int64{0, 1}),
		"a number far below 0":        codeWith(5, 2, []int64{1, math.MinInt64}),
		"a number far above":          codeWith(5, 2, []int64{1, math.MaxInt64}),
		"a number 256":                codeWith(5, 2, []int64{1, 256}),
		"a number 257 ahead":          codeWith(5, 2, []int64{257, 0}),
		"a number 2^32 + 1":           codeWith(5, 2, []int64{1<<32 + 1, 0}),
		"eleven numbers":              codeWith(5, 11, row(11, 1)),
		"ten numbers, eleven rows":    codeWith(2, 10, append(namedByHand("all", 2, 10).Rows, row(10, 0))...),
		"ten numbers, a row of them":  codeWith(2, 10, append(namedByHand("all", 2, 10).Rows, row(10, 1))...),
		"a hundred rows of 0":         codeWith(5, 3, slices.Repeat([][]int64{zeros(3)}, 100)...),
		"a thousand rows":             codeWith(5, 3, slices.Repeat([][]int64{{1, 2, 3}}, 1000)...),
		"many words and a bad number": codeWith(13, 10, append(namedByHand("all", 13, 9).Rows, row(10, 13))...),
	}
	for _, n := range outsideLengths {
		codes[fmt.Sprint("the length ", n)] = codeWith(5, n)
		codes[fmt.Sprint("a row and the length ", n)] = codeWith(5, n, []int64{1})
		codes[fmt.Sprint("an empty row and the length ", n)] = codeWith(5, n, []int64{})
	}
	for _, p := range noPrimes {
		codes[fmt.Sprint("no rows for ", p)] = codeWith(p, 3)
		codes[fmt.Sprint("a row for ", p)] = codeWith(p, 3, []int64{0, 1, 0})
		codes[fmt.Sprint("one number for ", p)] = codeWith(p, 1, []int64{1})
	}
	return codes
}

// noCounts are no lists for transforms and enumerators, each for one reason.
func noCounts() [][]int64 {
	lists := [][]int64{nil, {}, {0}, {1}, {-1}, {100000000}, zeros(12), row(12, 1), zeros(13), zeros(100), row(256, 1), zeros(258), zeros(267)}
	for _, bad := range []int64{-1, -2, -100000000, 100000001, 100000002, 1 << 31, 1 << 32, 1<<32 + 1, math.MinInt64, math.MinInt64 + 1, math.MaxInt64} {
		for _, other := range []int64{0, 1, -bad, bad, 100000000} {
			lists = append(lists, []int64{bad, other}, []int64{other, bad}, []int64{other, bad, other})
		}
		lists = append(lists, append(zeros(10), bad), begun(11, bad), []int64{bad}, append(zeros(11), bad))
	}
	return lists
}

// randomRows returns some rows of n numbers modulo p, about half of which are 0; some rows are sums of multiples
// of rows before them.
func randomRows(r *rand.Rand, p int64, n int64, count int) [][]int64 {
	var rows [][]int64
	for len(rows) < count {
		word := zeros(int(n))
		if len(rows) > 1 && r.Intn(4) == 0 {
			word = summedUp(p, int(n), rows, func() int64 { return r.Int63n(p) })
		} else {
			for i := range word {
				word[i] = r.Int63n(p) * r.Int63n(2)
			}
		}
		rows = append(rows, word)
	}
	return rows
}

// forCodes calls a check with random codes for all primes, of all lengths, with few rows, about half as many as
// numbers, and nearly all.
func forCodes(seed int64, check func(r *rand.Rand, c impl.Code)) {
	r := rand.New(rand.NewSource(seed))
	for _, p := range primes {
		for n := int64(1); n <= impl.MaxLength; n++ {
			for _, count := range []int{0, 1, 2, int(n) / 2, int(n+1) / 2, int(n) - 1, int(n), int(n) + 2} {
				check(r, codeByHand(p, n, randomRows(r, p, n, count)))
			}
		}
	}
}

// forFewWords calls a check with random codes that have at most some words.
func forFewWords(seed int64, most int64, check func(r *rand.Rand, c impl.Code)) {
	forCodes(seed, func(r *rand.Rand, c impl.Code) {
		for wordCount(c) > most {
			c.Rows = c.Rows[1:]
		}
		check(r, c)
	})
}

// dualOf returns the dual code.
func dualOf(t *testing.T, c impl.Code) impl.Code {
	t.Helper()
	dual, code := impl.DualCode(c)
	if code != impl.ErrNone {
		t.Fatalf("DualCode(%v): code %d", c, code)
	}
	return dual
}

// weightsOf returns the weights of a code, and whether there are any: of more than MaxWords words they are refused.
func weightsOf(t *testing.T, c impl.Code) ([]int64, bool) {
	t.Helper()
	weights, code := impl.WeightsOf(c)
	if wordCount(c) > impl.MaxWords {
		wantNumbers(t, fmt.Sprintf("WeightsOf(%v)", c), weights, code, nil, impl.ErrLimit)
		return nil, false
	}
	if code != impl.ErrNone {
		t.Fatalf("WeightsOf(%v): code %d", c, code)
	}
	return weights, true
}

// puncture returns the code punctured at a place.
func puncture(t *testing.T, c impl.Code, i int64) impl.Code {
	t.Helper()
	punctured, code := impl.PunctureCode(c, i)
	if code != impl.ErrNone {
		t.Fatalf("PunctureCode(%v, %d): code %d", c, i, code)
	}
	return punctured
}

// shorten returns the code shortened at a place.
func shorten(t *testing.T, c impl.Code, i int64) impl.Code {
	t.Helper()
	shortened, code := impl.ShortenCode(c, i)
	if code != impl.ErrNone {
		t.Fatalf("ShortenCode(%v, %d): code %d", c, i, code)
	}
	return shortened
}

// extend returns the extended code.
func extend(t *testing.T, c impl.Code) impl.Code {
	t.Helper()
	extended, code := impl.ExtendCode(c)
	if code != impl.ErrNone {
		t.Fatalf("ExtendCode(%v): code %d", c, code)
	}
	return extended
}

// sumOfCodes returns the sum of codes.
func sumOfCodes(t *testing.T, c impl.Code, d impl.Code) impl.Code {
	t.Helper()
	both, code := impl.AddCodes(c, d)
	if code != impl.ErrNone {
		t.Fatalf("AddCodes(%v, %v): code %d", c, d, code)
	}
	return both
}

// namedCode returns the code with a name.
func namedCode(t *testing.T, name string, p int64, n int64) impl.Code {
	t.Helper()
	c, code := impl.NamedCode(name, p, n)
	if code != impl.ErrNone {
		t.Fatalf("NamedCode(%q, %d, %d): code %d", name, p, n, code)
	}
	return c
}

// isWord reports whether a list is a word of a code.
func isWord(t *testing.T, c impl.Code, word []int64) bool {
	t.Helper()
	yes, code := impl.IsWordOf(c, word)
	if code != impl.ErrNone {
		t.Fatalf("IsWordOf(%v, %v): code %d", c, word, code)
	}
	return yes
}

// transformed returns the transform of a list.
func transformed(t *testing.T, p int64, list []int64) []int64 {
	t.Helper()
	transform, code := impl.TransformWeights(p, list)
	if code != impl.ErrNone {
		t.Fatalf("TransformWeights(%d, %v): code %d", p, list, code)
	}
	return transform
}

// enumerator returns the enumerator of a list.
func enumerator(t *testing.T, q int64, list []int64) impl.Poly {
	t.Helper()
	f, code := impl.EnumeratorOf(q, list)
	if code != impl.ErrNone {
		t.Fatalf("EnumeratorOf(%d, %v): code %d", q, list, code)
	}
	return f
}
