package tests

import (
	"math/rand"
	"slices"
	"testing"

	"loop.example/g01285/impl"
)

// zeros returns a list of as many zeros.
func zeros(count int) []int64 {
	return make([]int64, count)
}

// begun returns a list of as many numbers that begins with some and has zeros behind them.
func begun(count int, numbers ...int64) []int64 {
	list := zeros(count)
	copy(list, numbers)
	return list
}

// noSeries are no series, each for one reason.
func noSeries() map[string][]int64 {
	return map[string][]int64{
		"nil":                    nil,
		"empty":                  {},
		"42 numbers":             zeros(impl.MaxSeries + 2),
		"42 numbers, not all 0":  begun(impl.MaxSeries+2, 1, 2),
		"1000 numbers":           zeros(1000),
		"too great":              {impl.MaxCount + 1},
		"too small":              {-impl.MaxCount - 1},
		"too great at the end":   {1, 0, impl.MaxCount + 1},
		"too small at the end":   {1, 0, -impl.MaxCount - 1},
		"too great, 41 numbers":  append(begun(impl.MaxSeries, 1), impl.MaxCount+1),
		"the greatest of all":    {1, 1<<63 - 1},
		"the least of all":       {-1 << 63},
		"the least but one":      {-1<<63 + 1},
		"2 to the power of 32":   {1 << 32},
		"-1 modulo 2 to the 32":  {1<<32 - 1},
		"minus 2 to the 32 also": {0, -1 << 32, 0},
	}
}

// noDegrees are no degrees of which there is a series, each for one reason.
func noDegrees() map[string][]int64 {
	return map[string][]int64{
		"seven":                 {1, 1, 1, 1, 1, 1, 1},
		"seven different ones":  {1, 2, 3, 4, 5, 6, 7},
		"many":                  slices.Repeat([]int64{2}, 100),
		"0":                     {0},
		"0 at the end":          {1, 2, 0},
		"-1":                    {-1},
		"-1 behind others":      {2, -1, 3},
		"41":                    {impl.MaxSeries + 1},
		"41 at the end":         {40, 40, 40, 40, 40, 41},
		"257":                   {257},
		"the greatest of all":   {1<<63 - 1},
		"the least of all":      {1, -1 << 63},
		"2 to the power of 32":  {1 << 32},
		"1 behind 32 places":    {1<<32 + 1},
		"0 at the beginning":    {0, 1},
		"seven with one of 0":   {0, 1, 2, 3, 4, 5, 6},
		"seven with one of 100": {1, 2, 3, 4, 5, 6, 100},
	}
}

// noPermutations are no permutations, each for one reason.
func noPermutations() map[string][]int64 {
	return map[string][]int64{
		"nil":                  nil,
		"empty":                {},
		"nine numbers":         {0, 1, 2, 3, 4, 5, 6, 7, 8},
		"nine in a cycle":      {1, 2, 3, 4, 5, 6, 7, 8, 0},
		"many":                 zeros(300),
		"1 alone":              {1},
		"-1 alone":             {-1},
		"0 twice":              {0, 0},
		"1 twice":              {1, 1},
		"from 1 on":            {1, 2, 3},
		"one is too great":     {0, 1, 3},
		"-1 for 0":             {-1, 1, 2},
		"0 twice, 1 missing":   {0, 2, 0},
		"7 twice of eight":     {7, 0, 1, 2, 3, 4, 5, 7},
		"8 of eight":           {0, 1, 2, 3, 4, 5, 6, 8},
		"256 for 0":            {256, 1},
		"2 to the 32 for 0":    {1 << 32, 1},
		"the greatest of all":  {0, 1<<63 - 1},
		"the least of all":     {0, -1 << 63},
		"nothing to the place": {1, 1, 1, 1},
	}
}

// askedDegrees are numbers at and outside of the ends of a range from 0 to most; they are told with
// whether they are in it.
func askedDegrees(most int64) map[int64]bool {
	return map[int64]bool{
		0: true, 1: true, most - 1: true, most: true,
		-1: false, -most: false, most + 1: false, most + 2: false, 256: false, 1 << 32: false, 1<<32 + 1: false,
		1<<63 - 1: false, -1 << 63: false, -1<<63 + 1: false,
	}
}

// waysByHand counts the ways to write k as a sum of multiples of degrees: it tries all multiples of
// the first one.
func waysByHand(degrees []int64, k int64) int64 {
	if len(degrees) == 0 {
		if k == 0 {
			return 1
		}
		return 0
	}
	ways := int64(0)
	for ; k >= 0; k -= degrees[0] {
		ways += waysByHand(degrees[1:], k)
	}
	return ways
}

// seriesByHand has the ways to write 0 to k.
func seriesByHand(degrees []int64, k int64) []int64 {
	var series []int64
	for i := int64(0); i <= k; i++ {
		series = append(series, waysByHand(degrees, i))
	}
	return series
}

// plusShifted adds a series, moved by some places, to itself.
func plusShifted(series []int64, by int) []int64 {
	sum := slices.Clone(series)
	for i := by; i < len(sum); i++ {
		sum[i] += series[i-by]
	}
	return sum
}

// modulo returns the numbers of at least 0 of a list modulo p.
func modulo(p int64, list []int64) []int64 {
	var rest []int64
	for _, number := range list {
		rest = append(rest, number%p)
	}
	return rest
}

// randomSeries returns a series of numbers of absolute values of at most a number.
func randomSeries(r *rand.Rand, count int, most int64) []int64 {
	series := zeros(count)
	for i := range series {
		series[i] = r.Int63n(2*most+1) - most
	}
	return series
}

// randomDegrees returns some degrees of at most a number.
func randomDegrees(r *rand.Rand, count int, most int64) []int64 {
	degrees := zeros(count)
	for i := range degrees {
		degrees[i] = 1 + r.Int63n(most)
	}
	return degrees
}

// permutations lists all permutations of n numbers.
func permutations(n int64) [][]int64 {
	if n == 0 {
		return [][]int64{{}}
	}
	var list [][]int64
	for _, shorter := range permutations(n - 1) {
		for at := range n {
			list = append(list, slices.Insert(slices.Clone(shorter), int(at), n-1))
		}
	}
	return list
}

// typeByHand follows each number until it comes back: a cycle of the length m is met m times.
func typeByHand(list []int64) []int64 {
	met := map[int64]int64{}
	for start := range list {
		length := int64(1)
		for at := list[start]; at != int64(start); at = list[at] {
			length++
		}
		met[length]++
	}
	var lengths []int64
	for length := int64(len(list)); length > 0; length-- {
		for range met[length] / length {
			lengths = append(lengths, length)
		}
	}
	return lengths
}

// rankByHand returns the dimension of the space of rows of numbers modulo p.
func rankByHand(p int64, rows [][]int64) int {
	rank := 0
	for len(rows) > 0 {
		row := rows[0]
		rows = rows[1:]
		at := slices.IndexFunc(row, func(a int64) bool { return a != 0 })
		if at < 0 {
			continue
		}
		rank++
		for i, other := range rows {
			left := slices.Clone(other)
			for j := range left {
				// Both rows are multiplied so that the difference is 0 at the place.
				left[j] = (other[j]*row[at] + (p-other[at])*row[j]) % p
			}
			rows[i] = left
		}
	}
	return rank
}

// dimensionByHand leads all monomials of a degree by all Elements, and finds how many conditions there
// are for the coefficients of what is left by all.
func dimensionByHand(g impl.Group, k int64) int64 {
	list := monomials(g.Size, k)
	var conditions [][]int64
	for _, x := range g.Elements {
		rows := make([][]int64, len(list))
		for i, e := range list {
			there := tableOf(turned(x, built(g.Prime, g.Size, impl.Term{Exps: e, Value: 1})))
			for j, f := range list {
				number := there[f]
				if i == j {
					number = (number + g.Prime - 1) % g.Prime
				}
				rows[j] = append(rows[j], number)
			}
		}
		conditions = append(conditions, rows...)
	}
	return int64(len(list) - rankByHand(g.Prime, conditions))
}

// countedDimension tries all homogeneous polynomials of a degree, 0 included: p to the power of the
// dimension are invariant. It reports whether they are few enough for that.
func countedDimension(g impl.Group, k int64) (int64, bool) {
	list := monomials(g.Size, k)
	all := int64(1)
	for range list {
		all *= g.Prime
		if all > 300 {
			return 0, false
		}
	}
	invariant := int64(0)
	for number := range all {
		f := impl.Poly{Prime: g.Prime, Vars: g.Size}
		for _, e := range list {
			if number%g.Prime != 0 {
				f.Terms = append(f.Terms, impl.Term{Exps: e, Value: number % g.Prime})
			}
			number /= g.Prime
		}
		if !slices.ContainsFunc(turnedByAll(g, f), func(x impl.Poly) bool { return !samePoly(x, f) }) {
			invariant++
		}
	}
	dimension := int64(0)
	for ; invariant > 1; invariant /= g.Prime {
		dimension++
	}
	return dimension, true
}

// characteristicByHand develops det(1 - t g) by the first row, as a polynomial in the letter 0.
func characteristicByHand(p int64, n int64, g impl.Matrix) []int64 {
	rows := make([][]table, n)
	for i, numbers := range opened(n, g) {
		for j, number := range numbers {
			entry := table{{1}: (p - number) % p}
			if i == j {
				entry[impl.Exps{}] = 1
			}
			rows[i] = append(rows[i], entry)
		}
	}
	whole := developed(p, rows)
	var numbers []int64
	for k := range n + 1 {
		numbers = append(numbers, whole[impl.Exps{byte(k)}])
	}
	return numbers
}

// developed returns the determinant of rows of polynomials.
func developed(p int64, rows [][]table) table {
	if len(rows) == 0 {
		return table{{}: 1}
	}
	sum := table{}
	for j, entry := range rows[0] {
		var rest [][]table
		for _, row := range rows[1:] {
			rest = append(rest, slices.Concat(row[:j], row[j+1:]))
		}
		sign := int64(1)
		if j%2 == 1 {
			sign = p - 1
		}
		sum = sum.plus(p, sign, entry.times(p, developed(p, rest)))
	}
	return sum
}

// molienByHand adds up, number by number, the series that make 1 with the characteristic polynomials,
// and looks for the number that makes this sum with the order.
func molienByHand(g impl.Group, k int64) []int64 {
	p := g.Prime
	sum := zeros(int(k) + 1)
	for _, x := range g.Elements {
		numbers := characteristicByHand(p, g.Size, x)
		inverse := zeros(int(k) + 1)
		for i := range inverse {
			rest := int64(0)
			for j := 1; j < len(numbers) && j <= i; j++ {
				rest += numbers[j] * inverse[i-j]
			}
			inverse[i] = (p - rest%p) % p
			if i == 0 {
				inverse[i] = 1
			}
			sum[i] += inverse[i]
		}
	}
	for i, number := range sum {
		for share := range p {
			if (share*int64(len(g.Elements))-number)%p == 0 {
				sum[i] = share
			}
		}
	}
	return sum
}

// knownSeries returns the Hilbert series of a group with a name, up to k: invariants of most of them
// are the polynomials in some that have these degrees.
func knownSeries(t *testing.T, name string, p int64, k int64) []int64 {
	t.Helper()
	if p == 2 {
		// -1 is 1: what changes signs alone leaves everything.
		switch name {
		case "sign":
			name = "point"
		case "minus", "signs":
			return seriesByHand([]int64{1, 1}, k)
		case "square":
			name = "swap"
		case "cube":
			name = "symmetric"
		}
	}
	switch name {
	case "point":
		return seriesByHand([]int64{1}, k)
	case "sign":
		return seriesByHand([]int64{2}, k)
	case "minus":
		return plusShifted(seriesByHand([]int64{2, 2}, k), 2)
	case "swap":
		return seriesByHand([]int64{1, 2}, k)
	case "signs":
		return seriesByHand([]int64{2, 2}, k)
	case "square":
		return seriesByHand([]int64{2, 4}, k)
	case "triangle":
		return seriesByHand([]int64{2, 3}, k)
	case "turn":
		return plusShifted(seriesByHand([]int64{1, 2, 3}, k), 3)
	case "symmetric":
		return seriesByHand([]int64{1, 2, 3}, k)
	case "cube":
		return seriesByHand([]int64{2, 4, 6}, k)
	}
	t.Fatalf("no series is known for %q", name)
	return nil
}

// multiplesOf returns the group of the multiples of the unit by the powers of a number.
func multiplesOf(p int64, n int64, number byte) impl.Group {
	g := unitOf(n)
	for i := range n {
		g[i][i] = number
	}
	return groupWith(p, n, closedList(p, n, []impl.Matrix{g}, impl.MaxOrder)...)
}

// overturned returns the group of the matrices with rows and columns exchanged.
func overturned(g impl.Group) impl.Group {
	var list []impl.Matrix
	for _, x := range g.Elements {
		var y impl.Matrix
		for i := range 9 {
			y[i%3][i/3] = x[i/3][i%3]
		}
		list = append(list, y)
	}
	slices.SortFunc(list, before)
	return groupWith(g.Prime, g.Size, list...)
}

// greatLinear is the group of all 48 matrices of the size 2 modulo 3.
func greatLinear() impl.Group {
	return groupWith(3, 2, closedList(3, 2, []impl.Matrix{{{0, 1}, {1, 0}}, {{1, 1}, {0, 1}}}, impl.MaxOrder)...)
}
