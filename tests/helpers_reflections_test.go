package tests

import (
	"math/rand"
	"slices"
	"testing"

	"loop.example/g01285/impl"
)

// changed returns what a matrix adds to a point.
func changed(p int64, n int64, g impl.Matrix, point []int64) []int64 {
	there := led(p, n, g, point)
	for i, number := range point {
		there[i] = (there[i] + p - number) % p
	}
	return there
}

// timesPoint returns k times a point.
func timesPoint(p int64, k int64, point []int64) []int64 {
	times := slices.Clone(point)
	for i := range times {
		times[i] = times[i] * k % p
	}
	return times
}

// beginsWithOne reports whether the first number of a list other than 0 is 1.
func beginsWithOne(list []int64) bool {
	lead := leadOf(list)
	return lead >= 0 && list[lead] == 1
}

// rootByPoints looks at the changes of all points: they are the multiples of one of them other than 0 if
// this and they are as many, and each multiple is among them. It reports whether there is one.
func rootByPoints(p int64, n int64, g impl.Matrix) ([]int64, bool) {
	var changes [][]int64
	for _, point := range points(p, n) {
		changes = append(changes, changed(p, n, g, point))
	}
	slices.SortFunc(changes, slices.Compare)
	changes = slices.CompactFunc(changes, slices.Equal)
	at := slices.IndexFunc(changes, beginsWithOne)
	if at < 0 || int64(len(changes)) != p {
		return nil, false
	}
	for k := range p {
		multiple := timesPoint(p, k, changes[at])
		if !slices.ContainsFunc(changes, func(change []int64) bool { return slices.Equal(change, multiple) }) {
			return nil, false
		}
	}
	return changes[at], true
}

// mirrorByPoints reduces the list of all points that a matrix leaves.
func mirrorByPoints(p int64, n int64, g impl.Matrix) [][]int64 {
	var left [][]int64
	for _, point := range points(p, n) {
		if slices.Equal(led(p, n, g, point), point) {
			left = append(left, point)
		}
	}
	return reducedByHand(p, left)
}

// isFormByPoints reports whether a linear polynomial is the form of a matrix with a root: at all points
// the change is the root times the value times the same number.
func isFormByPoints(p int64, n int64, g impl.Matrix, root []int64, form impl.Poly) bool {
	numbers := rowByHand(form, 1)
	if form.Prime != p || form.Vars != n || !samePoly(form, polyByHand(p, n, 1, numbers)) || !beginsWithOne(numbers) {
		return false
	}
	fits := func(k int64) bool {
		return !slices.ContainsFunc(points(p, n), func(point []int64) bool {
			value := int64(0)
			for i, number := range point {
				value += number * numbers[i]
			}
			return !slices.Equal(changed(p, n, g, point), timesPoint(p, k*value%p, root))
		})
	}
	for k := int64(1); k < p; k++ {
		if fits(k) {
			return true
		}
	}
	return false
}

// reflecting returns the table that adds to each point a root, as many times as the sum of its numbers
// times those of a form tells.
func reflecting(p int64, form []int64, root []int64) impl.Matrix {
	rows := opened(int64(len(form)), unitOf(int64(len(form))))
	for i, a := range form {
		for j, b := range root {
			rows[i][j] = (rows[i][j] + a*b) % p
		}
	}
	return rows.closed()
}

// randomPoint returns a point other than 0.
func randomPoint(r *rand.Rand, p int64, n int64) []int64 {
	for {
		point := zeros(int(n))
		for i := range point {
			point[i] = r.Int63n(p)
		}
		if leadOf(point) >= 0 {
			return point
		}
	}
}

// forReflections calls a check with random reflections of all primes and sizes, and with their numbers:
// those of the order p, that have a root on the mirror, and others.
func forReflections(check func(p int64, n int64, g impl.Matrix, form []int64, root []int64)) {
	r := rand.New(rand.NewSource(41))
	for _, p := range primes {
		for n := int64(1); n <= 3; n++ {
			for range 60 {
				form, root := randomPoint(r, p, n), randomPoint(r, p, n)
				g := reflecting(p, form, root)
				if opened(n, g).determinant(p) != 0 {
					check(p, n, g, form, root)
				}
			}
		}
	}
}

// forMatrices calls a check with all matrices for which the points are few, with random ones for others,
// with reflections, and with products of two of them.
func forMatrices(check func(p int64, n int64, g impl.Matrix)) {
	r := rand.New(rand.NewSource(42))
	for _, p := range primes {
		for n := int64(1); n <= 3; n++ {
			if len(points(p, n)) > 30 {
				for range 20 {
					check(p, n, randomMatrix(r, p, n))
				}
				check(p, n, unitOf(n))
				continue
			}
			forTables(p, n, func(g impl.Matrix) {
				if opened(n, g).determinant(p) != 0 {
					check(p, n, g)
				}
			})
		}
	}
	forReflections(func(p int64, n int64, g impl.Matrix, form []int64, root []int64) {
		check(p, n, g)
		h := reflecting(p, randomPoint(r, p, n), root)
		if opened(n, h).determinant(p) != 0 {
			check(p, n, timesMatrix(p, n, g, h))
		}
		h = reflecting(p, randomPoint(r, p, n), randomPoint(r, p, n))
		if opened(n, h).determinant(p) != 0 {
			check(p, n, timesMatrix(p, n, g, h))
		}
	})
}

// reflectionsByHand returns the numbers of the Elements the changes of which have one dimension.
func reflectionsByHand(g impl.Group) []int64 {
	var numbers []int64
	for i, x := range g.Elements {
		var changes [][]int64
		for _, point := range opened(g.Size, unitOf(g.Size)) {
			changes = append(changes, changed(g.Prime, g.Size, x, point))
		}
		if rankByHand(g.Prime, changes) == 1 {
			numbers = append(numbers, int64(i))
		}
	}
	return numbers
}

// madeByHand returns the group that Elements with some numbers make.
func madeByHand(g impl.Group, numbers []int64) impl.Group {
	var list []impl.Matrix
	for _, number := range numbers {
		list = append(list, g.Elements[number])
	}
	return groupWith(g.Prime, g.Size, closedList(g.Prime, g.Size, list, impl.MaxOrder)...)
}

// jacobianByHand develops the determinant of the derivatives.
func jacobianByHand(list []impl.Poly) impl.Poly {
	p, d := list[0].Prime, list[0].Vars
	rows := make([][]table, len(list))
	for i, f := range list {
		for j := range d {
			derivative := table{}
			for e, value := range tableOf(f) {
				if exponent := int64(e[j]); exponent > 0 {
					e[j]--
					derivative[e] = value * exponent % p
				}
			}
			rows[i] = append(rows[i], derivative)
		}
	}
	return developed(p, rows).poly(p, d)
}

// dicksonByHand multiplies out the product of T + v, one factor after the other: at k of the result is
// the coefficient of T^k.
func dicksonByHand(p int64, n int64) []impl.Poly {
	coefficients := []table{{{}: 1}}
	for _, numbers := range points(p, n) {
		v := tableOf(polyByHand(p, n, 1, numbers))
		next := make([]table, len(coefficients)+1)
		for k := range next {
			next[k] = table{}
			if k > 0 {
				next[k] = coefficients[k-1]
			}
			if k < len(coefficients) {
				next[k] = next[k].plus(p, 1, coefficients[k].times(p, v))
			}
		}
		coefficients = next
	}
	var list []impl.Poly
	for _, coefficient := range coefficients {
		list = append(list, coefficient.poly(p, n))
	}
	return list
}

// dicksonSizes are all p and n for which there are Dickson invariants.
func dicksonSizes() [][2]int64 {
	var list [][2]int64
	for _, p := range primes {
		for n := int64(1); n <= 3; n++ {
			if len(points(p, n)) <= 13 {
				list = append(list, [2]int64{p, n})
			}
		}
	}
	return list
}

// dickson returns a Dickson invariant.
func dickson(t *testing.T, p int64, n int64, i int64) impl.Poly {
	t.Helper()
	f, code := impl.DicksonInvariant(p, n, i)
	if code != impl.ErrNone || !impl.IsPoly(f) {
		t.Fatalf("DicksonInvariant(%d, %d, %d) = %v, %d", p, n, i, f, code)
	}
	return f
}

// madeOf returns the group that matrices make.
func madeOf(p int64, n int64, list ...impl.Matrix) impl.Group {
	return groupWith(p, n, closedList(p, n, list, impl.MaxOrder)...)
}

// specialLinear is the group of the matrices of the size 2 modulo 3 with the determinant 1: of its 24
// Elements 8 are reflections, each of the order 3.
func specialLinear() impl.Group {
	return madeOf(3, 2, impl.Matrix{{1, 1}, {0, 1}}, impl.Matrix{{1, 0}, {1, 1}})
}

// dihedral24 is the group of the order 24 that is made by its 12 reflections modulo 13; the powers of
// 2 are all numbers but 0.
func dihedral24() impl.Group {
	return madeOf(13, 2, impl.Matrix{{2, 0}, {0, 7}}, impl.Matrix{{0, 1}, {1, 0}})
}

// dihedral26 has the shears modulo 13, and reflections of the order 2.
func dihedral26() impl.Group {
	return madeOf(13, 2, impl.Matrix{{1, 1}, {0, 1}}, impl.Matrix{{12, 0}, {0, 1}})
}

// twoDiagonals is the group of the size 2 of all matrices with powers of one number, and of another one,
// on the diagonal: it is made by its reflections.
func twoDiagonals(p int64, a byte, b byte) impl.Group {
	return madeOf(p, 2, impl.Matrix{{a, 0}, {0, 1}}, impl.Matrix{{1, 0}, {0, b}})
}

// signedTurns is the group of the order 24 of the turns with signs: only the changes of one sign are
// reflections.
func signedTurns(p byte) impl.Group {
	return madeOf(int64(p), 3, impl.Matrix{{0, 1, 0}, {0, 0, 1}, {1, 0, 0}}, impl.Matrix{{p - 1, 0, 0}, {0, 1, 0}, {0, 0, 1}})
}
