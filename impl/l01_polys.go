package impl

import (
	"cmp"
	"slices"
	"strconv"
	"strings"
)

// Exps has the exponent of the letter i at i.
type Exps [3]byte

// Error codes of all chapters.
const (
	ErrNone = iota
	ErrInvalid
	ErrRange
	ErrLimit
	ErrNotFound
	ErrState
	ErrSyntax
)

// Limits of chapter 1.
const (
	MaxVars   = 3
	MaxDegree = 12
	MaxRows   = 100
)

// Term is described in chapter 1.
type Term struct {
	Exps  Exps
	Value int64
}

// Poly is described in chapter 1.
type Poly struct {
	Prime int64
	Vars  int64
	Terms []Term
}

// letters are those of texts, in order.
const letters = "xyz"

// wideRow holds a row of at most MaxRows numbers; as an array it is copied when it is assigned, so
// that rows can be exchanged and changed without a thought of the argument they come from.
type wideRow [MaxRows]int64

// IsPoly reports whether x is a polynomial.
func IsPoly(x Poly) bool {
	if !isPrime(x.Prime) || !isVars(x.Vars) {
		return false
	}
	for i, t := range x.Terms {
		if !isMonomial(x.Vars, t.Exps) || t.Value < 1 || t.Value >= x.Prime {
			return false
		}
		if i > 0 && compareExps(x.Terms[i-1].Exps, t.Exps) >= 0 {
			return false
		}
	}
	return true
}

// MonomialOf returns the polynomial with one monomial, told by d exponents, times value in 0..p -
// 1 (without Terms for 0), and ErrNone. (ErrInvalid is not returned.) Errors: ErrRange also if an
// exponent is less than 0, or p is no prime; ErrLimit if the degree is greater than MaxDegree.
func MonomialOf(p int64, d int64, exps []int64, value int64) (Poly, int64) {
	if !isPrime(p) || !isVars(d) || !areExponents(d, exps) || !isNumber(p, value) {
		return Poly{}, ErrRange
	}
	if cappedSum(exps) > MaxDegree {
		return Poly{}, ErrLimit
	}
	return polyOf(p, d, map[Exps]int64{expsOf(exps): value}), ErrNone
}

// AddPolys returns x and k times y together, k in 0..p - 1, and ErrNone.
func AddPolys(x Poly, y Poly, k int64) (Poly, int64) {
	if code := checkPair(x, y); code != ErrNone {
		return Poly{}, code
	}
	if !isNumber(x.Prime, k) {
		return Poly{}, ErrRange
	}
	values := map[Exps]int64{}
	addTimes(values, x, 1)
	addTimes(values, y, k)
	return polyOf(x.Prime, x.Vars, values), ErrNone
}

// MultiplyPolys returns the product, and ErrNone. (0, of the degree -1, times anything is 0,
// without ErrLimit.)
func MultiplyPolys(x Poly, y Poly) (Poly, int64) {
	if code := checkPair(x, y); code != ErrNone {
		return Poly{}, code
	}
	if degree(x)+degree(y) > MaxDegree {
		return Poly{}, ErrLimit
	}
	return product(x, y), ErrNone
}

// PowerPoly returns the power k of x, k in 0..MaxDegree (1 for k = 0), and ErrNone.
func PowerPoly(x Poly, k int64) (Poly, int64) {
	if !IsPoly(x) {
		return Poly{}, ErrInvalid
	}
	if !isDegree(k) {
		return Poly{}, ErrRange
	}
	if degree(x)*k > MaxDegree {
		return Poly{}, ErrLimit
	}
	power := constant(x.Prime, x.Vars, 1)
	for range k {
		power = product(power, x)
	}
	return power, ErrNone
}

// DegreeOf returns the degree, and ErrNone.
func DegreeOf(x Poly) (int64, int64) {
	if !IsPoly(x) {
		return 0, ErrInvalid
	}
	return degree(x), ErrNone
}

// IsHomogeneous reports whether x is homogeneous, and returns ErrNone.
func IsHomogeneous(x Poly) (bool, int64) {
	if !IsPoly(x) {
		return false, ErrInvalid
	}
	// The Terms are ordered by degree: the first and the last one tell about all.
	return len(x.Terms) == 0 || cappedSum(x.Terms[0].Exps[:]) == degree(x), ErrNone
}

// PartOfDegree returns the part of the degree n in 0..MaxDegree, and ErrNone.
func PartOfDegree(x Poly, n int64) (Poly, int64) {
	if !IsPoly(x) {
		return Poly{}, ErrInvalid
	}
	if !isDegree(n) {
		return Poly{}, ErrRange
	}
	part := constant(x.Prime, x.Vars, 0)
	for _, t := range x.Terms {
		if cappedSum(t.Exps[:]) == n {
			part.Terms = append(part.Terms, t)
		}
	}
	return part, ErrNone
}

// CoefficientAt returns the coefficient of a monomial told by d exponents, and ErrNone. Errors:
// ErrRange also if an exponent is less than 0, or the degree is greater than MaxDegree.
func CoefficientAt(x Poly, exps []int64) (int64, int64) {
	if !IsPoly(x) {
		return 0, ErrInvalid
	}
	if !areExponents(x.Vars, exps) || cappedSum(exps) > MaxDegree {
		return 0, ErrRange
	}
	wanted := expsOf(exps)
	for _, t := range x.Terms {
		if t.Exps == wanted {
			return t.Value, ErrNone
		}
	}
	return 0, ErrNone
}

// ValueAt returns the value at a point, and ErrNone.
func ValueAt(x Poly, point []int64) (int64, int64) {
	if !IsPoly(x) {
		return 0, ErrInvalid
	}
	if !areNumbers(x.Prime, x.Vars, point) {
		return 0, ErrRange
	}
	sum := int64(0)
	for _, t := range x.Terms {
		value := t.Value
		for i, number := range point {
			value = value * powerModulo(x.Prime, number, int64(t.Exps[i])) % x.Prime
		}
		sum = (sum + value) % x.Prime
	}
	return sum, ErrNone
}

// DerivativeOf returns the derivative in the letter i, in 0..d - 1, and ErrNone.
func DerivativeOf(x Poly, i int64) (Poly, int64) {
	if !IsPoly(x) {
		return Poly{}, ErrInvalid
	}
	if i < 0 || i >= x.Vars {
		return Poly{}, ErrRange
	}
	values := map[Exps]int64{}
	for _, t := range x.Terms {
		if t.Exps[i] > 0 {
			value := t.Value * int64(t.Exps[i]) % x.Prime
			t.Exps[i]--
			values[t.Exps] = value
		}
	}
	return polyOf(x.Prime, x.Vars, values), ErrNone
}

// SubstitutePoly returns the substitution of a list of d polynomials, with the Prime of x, for its
// letters, and ErrNone. Errors: ErrRange also if they are not alike.
func SubstitutePoly(x Poly, list []Poly) (Poly, int64) {
	if code := checkSubstitution(x, list); code != ErrNone {
		return Poly{}, code
	}
	vars := list[0].Vars
	done := map[Exps]Poly{{}: constant(x.Prime, vars, 1)}
	values := map[Exps]int64{}
	for _, t := range x.Terms {
		addTimes(values, putIn(t.Exps, list, done), t.Value)
	}
	return polyOf(x.Prime, vars, values), ErrNone
}

// MonomialsOf returns all monomials in d letters of the degree n, in 0..MaxDegree, in order, and
// ErrNone. (ErrInvalid is not returned.)
func MonomialsOf(d int64, n int64) ([]Exps, int64) {
	if !isVars(d) || !isDegree(n) {
		return nil, ErrRange
	}
	var list []Exps
	for a := n; a >= 0; a-- {
		for b := n - a; b >= 0; b-- {
			e := Exps{byte(a), byte(b), byte(n - a - b)}
			if isMonomial(d, e) {
				list = append(list, e)
			}
		}
	}
	return list, ErrNone
}

// PolyText returns the text of x, and ErrNone.
func PolyText(x Poly) (string, int64) {
	if !IsPoly(x) {
		return "", ErrInvalid
	}
	if len(x.Terms) == 0 {
		return "0", ErrNone
	}
	parts := make([]string, len(x.Terms))
	for i, t := range x.Terms {
		parts[i] = termText(t)
	}
	return strings.Join(parts, "+"), ErrNone
}

// ParsePoly returns the polynomial with a text, for a prime p and d letters, and ErrNone.
// (ErrInvalid is not returned.) Errors: ErrRange if p is no prime, or d is not in 1..MaxVars;
// ErrSyntax if there is none.
func ParsePoly(p int64, d int64, text string) (Poly, int64) {
	if !isPrime(p) || !isVars(d) {
		return Poly{}, ErrRange
	}
	x := constant(p, d, 0)
	if text == "0" {
		return x, ErrNone
	}
	for part := range strings.SplitSeq(text, "+") {
		t, ok := parseTerm(p, d, part)
		last := len(x.Terms) - 1
		if !ok || last >= 0 && compareExps(x.Terms[last].Exps, t.Exps) >= 0 {
			return Poly{}, ErrSyntax
		}
		x.Terms = append(x.Terms, t)
	}
	return x, ErrNone
}

// ReduceRows returns the reduced list of at most MaxRows rows of n numbers modulo a prime p, n in
// 0..MaxRows, and ErrNone. (ErrInvalid is not returned; ErrRange also if p is no prime.)
func ReduceRows(p int64, n int64, rows [][]int64) ([][]int64, int64) {
	if !isPrime(p) || n < 0 || n > MaxRows || len(rows) > MaxRows {
		return nil, ErrRange
	}
	for _, row := range rows {
		if !areNumbers(p, n, row) {
			return nil, ErrRange
		}
	}
	table := make([]wideRow, len(rows))
	for i, row := range rows {
		table[i] = widen(row)
	}
	var reduced [][]int64
	for _, row := range eliminate(p, n, table) {
		reduced = append(reduced, slices.Clone(row[:n]))
	}
	return reduced, ErrNone
}

// isPrime reports whether p is one of the primes of the document.
func isPrime(p int64) bool {
	switch p {
	case 2, 3, 5, 7, 11, 13:
		return true
	}
	return false
}

// isVars reports whether there can be d letters.
func isVars(d int64) bool {
	return d >= 1 && d <= MaxVars
}

// isDegree reports whether a monomial can have the degree n.
func isDegree(n int64) bool {
	return n >= 0 && n <= MaxDegree
}

// isNumber reports whether a is a number modulo p.
func isNumber(p int64, a int64) bool {
	return a >= 0 && a < p
}

// areNumbers reports whether a list has n numbers modulo p.
func areNumbers(p int64, n int64, list []int64) bool {
	outside := func(a int64) bool { return !isNumber(p, a) }
	return int64(len(list)) == n && !slices.ContainsFunc(list, outside)
}

// areExponents reports whether a list has d exponents of at least 0, of any degree.
func areExponents(d int64, exps []int64) bool {
	negative := func(a int64) bool { return a < 0 }
	return int64(len(exps)) == d && !slices.ContainsFunc(exps, negative)
}

// isMonomial reports whether e has the exponents of a monomial in d letters.
func isMonomial(d int64, e Exps) bool {
	for _, exponent := range e[d:] {
		if exponent != 0 {
			return false
		}
	}
	return cappedSum(e[:]) <= MaxDegree
}

// cappedSum adds numbers of at least 0. It gives up at MaxDegree + 1, since exponents that callers
// make up can be too great to be added.
func cappedSum[N byte | int64](numbers []N) int64 {
	sum := int64(0)
	for _, n := range numbers {
		if int64(n) > MaxDegree-sum {
			return MaxDegree + 1
		}
		sum += int64(n)
	}
	return sum
}

// expsOf returns exponents of a degree of at most MaxDegree, with 0 for the letters that are not
// there.
func expsOf(exps []int64) Exps {
	var e Exps
	for i, exponent := range exps {
		e[i] = byte(exponent)
	}
	return e
}

// compareExps compares two monomials in their order. The last letter needs no look: the others and
// the degree tell its exponent.
func compareExps(a Exps, b Exps) int {
	return cmp.Or(
		cmp.Compare(cappedSum(a[:]), cappedSum(b[:])),
		cmp.Compare(b[0], a[0]),
		cmp.Compare(b[1], a[1]),
	)
}

// degree returns the degree of a polynomial.
func degree(x Poly) int64 {
	if len(x.Terms) == 0 {
		return -1
	}
	return cappedSum(x.Terms[len(x.Terms)-1].Exps[:])
}

// areAlike reports whether x and y have equal Prime and Vars.
func areAlike(x Poly, y Poly) bool {
	return x.Prime == y.Prime && x.Vars == y.Vars
}

// checkPair returns the error of two polynomials that have to be alike.
func checkPair(x Poly, y Poly) int64 {
	if !IsPoly(x) || !IsPoly(y) {
		return ErrInvalid
	}
	if !areAlike(x, y) {
		return ErrRange
	}
	return ErrNone
}

// checkSubstitution returns the error of a substitution of a list for the letters of x.
func checkSubstitution(x Poly, list []Poly) int64 {
	invalid := func(y Poly) bool { return !IsPoly(y) }
	if invalid(x) || slices.ContainsFunc(list, invalid) {
		return ErrInvalid
	}
	unlike := func(y Poly) bool { return y.Prime != x.Prime || !areAlike(y, list[0]) }
	if int64(len(list)) != x.Vars || slices.ContainsFunc(list, unlike) {
		return ErrRange
	}
	for _, t := range x.Terms {
		bound := int64(0)
		for i, y := range list {
			bound += int64(t.Exps[i]) * max(degree(y), 0)
		}
		if bound > MaxDegree {
			return ErrLimit
		}
	}
	return ErrNone
}

// polyOf returns the polynomial with numbers modulo p as coefficients; those that are 0 are left
// out, and the order of the map is not seen.
func polyOf(p int64, d int64, values map[Exps]int64) Poly {
	x := Poly{Prime: p, Vars: d}
	for e, value := range values {
		if value != 0 {
			x.Terms = append(x.Terms, Term{Exps: e, Value: value})
		}
	}
	slices.SortFunc(x.Terms, func(s, t Term) int { return compareExps(s.Exps, t.Exps) })
	return x
}

// constant returns the number value modulo p as a polynomial.
func constant(p int64, d int64, value int64) Poly {
	return polyOf(p, d, map[Exps]int64{{}: value})
}

// addTimes adds k times x to the coefficients in values.
func addTimes(values map[Exps]int64, x Poly, k int64) {
	for _, t := range x.Terms {
		values[t.Exps] = (values[t.Exps] + k*t.Value) % x.Prime
	}
}

// product returns the product of polynomials that are alike, the degree bound of which is at most
// MaxDegree.
func product(x Poly, y Poly) Poly {
	values := map[Exps]int64{}
	for _, s := range x.Terms {
		for _, t := range y.Terms {
			e := s.Exps
			for i := range e {
				e[i] += t.Exps[i]
			}
			values[e] = (values[e] + s.Value*t.Value) % x.Prime
		}
	}
	return polyOf(x.Prime, x.Vars, values)
}

// putIn returns what the monomial e becomes when the list is put in for the letters. It keeps this
// in done, which has that of the monomial 1 from the start: monomials share their divisors, so that
// each new one costs a single product.
func putIn(e Exps, list []Poly, done map[Exps]Poly) Poly {
	if x, ok := done[e]; ok {
		return x
	}
	i := len(list) - 1
	for e[i] == 0 {
		i--
	}
	divisor := e
	divisor[i]--
	x := product(putIn(divisor, list, done), list[i])
	done[e] = x
	return x
}

// powerModulo returns the power k of a number modulo p.
func powerModulo(p int64, a int64, k int64) int64 {
	power := int64(1)
	for range k {
		power = power * a % p
	}
	return power
}

// inverseModulo returns the number that makes 1 with a, which is not 0, modulo the prime p.
func inverseModulo(p int64, a int64) int64 {
	return powerModulo(p, a, p-2)
}

// termText returns the text of a Term.
func termText(t Term) string {
	text := strconv.FormatInt(t.Value, 10)
	for i, exponent := range t.Exps {
		if exponent > 0 {
			text += letters[i : i+1]
		}
		if exponent > 1 {
			text += strconv.Itoa(int(exponent))
		}
	}
	return text
}

// parseTerm returns the Term with a text, and whether there is one.
func parseTerm(p int64, d int64, text string) (Term, bool) {
	value, rest := takeNumber(text)
	t := Term{Value: value}
	for i := range d {
		behind, found := strings.CutPrefix(rest, letters[i:i+1])
		if !found {
			continue
		}
		exponent := int64(1)
		if behind != "" && isDigit(behind[0]) {
			exponent, behind = takeNumber(behind)
			if exponent < 2 {
				return Term{}, false
			}
		}
		t.Exps[i] = byte(exponent)
		rest = behind
	}
	ok := rest == "" && value >= 1 && value < p && isMonomial(d, t.Exps)
	return t, ok
}

// takeNumber returns the number at the beginning of a text, and what is behind it. The number is 0
// if there is none, or one that no Term has: 0, one with a leading 0, or with more than two digits.
func takeNumber(text string) (int64, string) {
	size := 0
	for size < len(text) && isDigit(text[size]) {
		size++
	}
	if size == 0 || size > 2 || text[0] == '0' {
		return 0, text[size:]
	}
	number := int64(0)
	for _, digit := range []byte(text[:size]) {
		number = 10*number + int64(digit-'0')
	}
	return number, text[size:]
}

// isDigit reports whether b is a decimal digit.
func isDigit(b byte) bool {
	return b >= '0' && b <= '9'
}

// widen returns a row of at most MaxRows numbers, filled up with 0.
func widen(row []int64) wideRow {
	full := make([]int64, MaxRows)
	copy(full, row)
	return wideRow(full)
}

// eliminate reduces the rows of a table, of n numbers modulo p each, in place, and returns the part
// of the table with the reduced list.
func eliminate(p int64, n int64, table []wideRow) []wideRow {
	rank := 0
	for place := range n {
		leads := func(row wideRow) bool { return row[place] != 0 }
		found := slices.IndexFunc(table[rank:], leads)
		if found < 0 {
			continue
		}
		table[rank], table[rank+found] = table[rank+found], table[rank]
		scale(p, n, &table[rank], inverseModulo(p, table[rank][place]))
		for i := range table {
			if i != rank {
				// p - a is -a modulo p: the number at place becomes 0.
				addRow(p, n, &table[i], &table[rank], p-table[i][place])
			}
		}
		rank++
	}
	return table[:rank]
}

// scale multiplies a row by k.
func scale(p int64, n int64, row *wideRow, k int64) {
	for i := range n {
		row[i] = row[i] * k % p
	}
}

// addRow adds k times a row to another one.
func addRow(p int64, n int64, row *wideRow, other *wideRow, k int64) {
	for i := range n {
		row[i] = (row[i] + k*other[i]) % p
	}
}
