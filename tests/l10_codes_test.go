package tests

import (
	"fmt"
	"math"
	"math/rand"
	"slices"
	"testing"

	"loop.example/g01285/impl"
)

func TestCodeLimits(t *testing.T) {
	if impl.MaxLength != 10 || impl.MaxWords != 20000 {
		t.Errorf("limits %d, %d", impl.MaxLength, impl.MaxWords)
	}
}

// hammingRows make, modulo 2, a code of seven numbers with the distance 3.
func hammingRows() [][]int64 {
	return [][]int64{{1, 0, 0, 0, 0, 1, 1}, {0, 1, 0, 0, 1, 0, 1}, {0, 0, 1, 0, 1, 1, 0}, {0, 0, 0, 1, 1, 1, 1}}
}

// goodCodes are written down by their rows.
func goodCodes() []impl.Code {
	list := []impl.Code{
		codeWith(2, 1),
		codeWith(13, 1),
		codeWith(2, 1, []int64{1}),
		codeWith(13, 1, []int64{1}),
		codeWith(5, 2),
		codeWith(5, 2, []int64{1, 0}),
		codeWith(5, 2, []int64{1, 4}),
		codeWith(5, 2, []int64{0, 1}),
		codeWith(5, 2, []int64{1, 0}, []int64{0, 1}),
		codeWith(2, 3, []int64{1, 1, 1}),
		codeWith(3, 3, []int64{1, 2, 0}, []int64{0, 0, 1}),
		codeWith(3, 3, []int64{1, 0, 2}, []int64{0, 1, 2}),
		codeWith(13, 4, []int64{0, 1, 0, 12}, []int64{0, 0, 1, 5}),
		codeWith(7, 4, []int64{0, 0, 0, 1}),
		codeWith(2, 7, hammingRows()...),
		codeWith(5, 10),
		codeWith(5, 10, row(10, 1)),
		codeWith(2, 10, append(zeros(9), 1)),
	}
	for _, name := range codeNames {
		for _, p := range primes {
			list = append(list, namedByHand(name, p, 10), namedByHand(name, p, 1))
		}
	}
	return list
}

func TestIsCode(t *testing.T) {
	for _, c := range goodCodes() {
		if !impl.IsCode(c) {
			t.Errorf("IsCode(%v) = false", c)
		}
	}
	for why, c := range noCodes() {
		if impl.IsCode(c) {
			t.Errorf("IsCode of %s, %v = true", why, c)
		}
	}
	empty := impl.Code{Prime: 5, Length: 2, Rows: [][]int64{}}
	if !impl.IsCode(empty) {
		t.Error("IsCode without rows, not nil = false")
	}
}

func TestCodeOf(t *testing.T) {
	good := []struct {
		p, n       int64
		rows, want [][]int64
	}{
		{2, 3, [][]int64{{1, 1, 1}, {1, 1, 1}}, [][]int64{{1, 1, 1}}},
		{5, 1, nil, nil},
		{5, 1, [][]int64{{0}}, nil},
		{5, 1, [][]int64{{3}}, [][]int64{{1}}},
		{5, 1, [][]int64{{3}, {2}, {0}}, [][]int64{{1}}},
		{13, 10, nil, nil},
		{13, 10, [][]int64{row(10, 12)}, [][]int64{row(10, 1)}},
		{5, 2, [][]int64{{2, 4}, {1, 2}}, [][]int64{{1, 2}}},
		{5, 2, [][]int64{{0, 3}, {2, 0}}, [][]int64{{1, 0}, {0, 1}}},
		{7, 3, [][]int64{{1, 2, 3}, {4, 5, 6}}, [][]int64{{1, 0, 6}, {0, 1, 2}}},
		{2, 4, [][]int64{{1, 1, 0, 0}, {0, 1, 1, 0}, {1, 0, 1, 0}}, [][]int64{{1, 0, 1, 0}, {0, 1, 1, 0}}},
		{3, 3, [][]int64{{0, 0, 0}, {0, 0, 0}}, nil},
		{3, 3, [][]int64{{0, 0, 2}, {0, 2, 0}, {2, 0, 0}}, [][]int64{{1, 0, 0}, {0, 1, 0}, {0, 0, 1}}},
		{11, 3, [][]int64{{1, 1, 10}, {1, 1, 0}, {0, 0, 0}}, [][]int64{{1, 1, 0}, {0, 0, 1}}},
	}
	for _, c := range good {
		got, code := impl.CodeOf(c.p, c.n, c.rows)
		wantCode(t, fmt.Sprintf("CodeOf(%d, %d, %v)", c.p, c.n, c.rows), got, code, codeWith(c.p, c.n, c.want...))
	}
	for _, c := range goodCodes() {
		got, code := impl.CodeOf(c.Prime, c.Length, c.Rows)
		wantCode(t, fmt.Sprintf("CodeOf for %v", c), got, code, c)
	}
}

func TestCodeOfErrors(t *testing.T) {
	bad := []struct {
		p, n int64
		rows [][]int64
	}{
		{5, 2, [][]int64{{1}}},
		{5, 2, [][]int64{{1, 1, 0}}},
		{5, 2, [][]int64{{1, 1}, nil}},
		{5, 2, [][]int64{{1, 1}, {1, 1}, {1}}},
		{5, 2, [][]int64{{}}},
		{5, 1, [][]int64{{}}},
		{5, 2, [][]int64{{1, 5}}},
		{2, 2, [][]int64{{2, 0}}},
		{5, 2, [][]int64{{1, 1}, {-1, 0}}},
		{5, 2, [][]int64{{1, 256}}},
		{5, 2, [][]int64{{1, 1 << 32}}},
		{5, 2, [][]int64{{1, math.MaxInt64}}},
		{5, 2, [][]int64{{1, math.MinInt64}}},
		{5, 10, [][]int64{row(10, 1), row(9, 1)}},
		{5, 10, [][]int64{row(10, 1), row(11, 1)}},
		{13, 10, [][]int64{row(10, 13)}},
		// More than MaxRows rows.
		{5, 2, slices.Repeat([][]int64{{1, 2}}, 101)},
		{5, 2, slices.Repeat([][]int64{{0, 0}}, 101)},
		{2, 10, slices.Repeat([][]int64{row(10, 1)}, 1000)},
		{5, 1, make([][]int64, 101)},
	}
	for _, c := range bad {
		got, code := impl.CodeOf(c.p, c.n, c.rows)
		wantNoCode(t, fmt.Sprintf("CodeOf(%d, %d, %v)", c.p, c.n, c.rows), got, code, impl.ErrRange)
	}
	for _, n := range outsideLengths {
		lists := [][][]int64{nil, {{}}, {{1}}}
		if n > 0 && n < 300 {
			lists = append(lists, [][]int64{row(int(n), 1)}, [][]int64{row(int(n), 0)})
		}
		for _, rows := range lists {
			got, code := impl.CodeOf(5, n, rows)
			wantNoCode(t, fmt.Sprintf("CodeOf(5, %d, %v)", n, rows), got, code, impl.ErrRange)
		}
	}
	for _, p := range noPrimes {
		for _, rows := range [][][]int64{nil, {{1, 0}}, {{0, 0}}, {{1}}} {
			got, code := impl.CodeOf(p, 2, rows)
			wantNoCode(t, fmt.Sprintf("CodeOf(%d, 2, %v)", p, rows), got, code, impl.ErrRange)
		}
	}
}

// TestCodeOfManyRows takes as many rows as may be, for words with as many numbers as may be.
func TestCodeOfManyRows(t *testing.T) {
	r := rand.New(rand.NewSource(110))
	for _, p := range primes {
		for n := int64(1); n <= impl.MaxLength; n++ {
			rows := slices.Repeat(randomRows(r, p, n, 4), impl.MaxRows/4)
			got, code := impl.CodeOf(p, n, rows)
			wantCode(t, fmt.Sprintf("CodeOf(%d, %d, ..) of 100 rows", p, n), got, code, codeByHand(p, n, rows))
			rows = randomRows(r, p, n, impl.MaxRows)
			got, code = impl.CodeOf(p, n, rows)
			wantCode(t, fmt.Sprintf("CodeOf(%d, %d, ..) of 100 rows", p, n), got, code, codeByHand(p, n, rows))
			got, code = impl.CodeOf(p, n, append(rows, zeros(int(n))))
			wantNoCode(t, fmt.Sprintf("CodeOf(%d, %d, ..) of 101 rows", p, n), got, code, impl.ErrRange)
		}
	}
}

func TestDualCode(t *testing.T) {
	cases := []struct{ c, want impl.Code }{
		{codeWith(2, 3, []int64{1, 1, 1}), codeWith(2, 3, []int64{1, 0, 1}, []int64{0, 1, 1})},
		{codeWith(5, 1), codeWith(5, 1, []int64{1})},
		{codeWith(5, 1, []int64{1}), codeWith(5, 1)},
		{codeWith(5, 2), codeWith(5, 2, []int64{1, 0}, []int64{0, 1})},
		{codeWith(5, 2, []int64{1, 0}), codeWith(5, 2, []int64{0, 1})},
		{codeWith(5, 2, []int64{0, 1}), codeWith(5, 2, []int64{1, 0})},
		{codeWith(5, 2, []int64{1, 2}), codeWith(5, 2, []int64{1, 2})},
		{codeWith(5, 2, []int64{1, 1}), codeWith(5, 2, []int64{1, 4})},
		{codeWith(7, 2, []int64{1, 3}), codeWith(7, 2, []int64{1, 2})},
		{codeWith(7, 3, []int64{1, 2, 3}), codeWith(7, 3, []int64{1, 0, 2}, []int64{0, 1, 4})},
		{codeWith(7, 3, []int64{1, 0, 2}, []int64{0, 1, 4}), codeWith(7, 3, []int64{1, 2, 3})},
		{codeWith(3, 4, []int64{0, 1, 0, 2}, []int64{0, 0, 1, 1}), codeWith(3, 4, []int64{1, 0, 0, 0}, []int64{0, 1, 2, 1})},
		{
			codeWith(2, 7, hammingRows()...),
			codeWith(2, 7, []int64{1, 0, 1, 0, 1, 0, 1}, []int64{0, 1, 1, 0, 0, 1, 1}, []int64{0, 0, 0, 1, 1, 1, 1}),
		},
		{codeWith(13, 10, row(10, 1)), namedByHand("even", 13, 10)},
		{codeWith(13, 10), namedByHand("all", 13, 10)},
		{namedByHand("all", 13, 10), codeWith(13, 10)},
	}
	for _, c := range cases {
		dual, code := impl.DualCode(c.c)
		wantCode(t, fmt.Sprintf("DualCode(%v)", c.c), dual, code, c.want)
	}
}

func TestWeightsOf(t *testing.T) {
	cases := []struct {
		c    impl.Code
		want []int64
	}{
		{codeWith(5, 1), []int64{1, 0}},
		{codeWith(5, 1, []int64{1}), []int64{1, 4}},
		{codeWith(2, 1, []int64{1}), []int64{1, 1}},
		{codeWith(2, 3), []int64{1, 0, 0, 0}},
		{codeWith(2, 3, []int64{1, 1, 1}), []int64{1, 0, 0, 1}},
		{codeWith(2, 3, []int64{1, 0, 1}, []int64{0, 1, 1}), []int64{1, 0, 3, 0}},
		{codeWith(3, 3, []int64{1, 0, 2}, []int64{0, 1, 2}), []int64{1, 0, 6, 2}},
		{codeWith(5, 3, []int64{0, 1, 0}), []int64{1, 4, 0, 0}},
		{codeWith(2, 7, hammingRows()...), []int64{1, 0, 0, 7, 7, 0, 0, 1}},
		{codeWith(3, 4, []int64{1, 0, 1, 1}, []int64{0, 1, 1, 2}), []int64{1, 0, 0, 8, 0}},
		{codeWith(13, 10, row(10, 1)), append(append([]int64{1}, zeros(9)...), 12)},
		{codeWith(13, 10), append([]int64{1}, zeros(10)...)},
		{namedByHand("all", 2, 10), []int64{1, 10, 45, 120, 210, 252, 210, 120, 45, 10, 1}},
		{namedByHand("even", 2, 10), []int64{1, 0, 45, 0, 210, 0, 210, 0, 45, 0, 1}},
		{namedByHand("all", 13, 3), []int64{1, 36, 432, 1728}},
		// These have nearly as many words as may be: 19683 and 16807.
		{namedByHand("all", 3, 9), []int64{1, 18, 144, 672, 2016, 4032, 5376, 4608, 2304, 512}},
		{namedByHand("all", 7, 5), []int64{1, 30, 360, 2160, 6480, 7776}},
	}
	for _, c := range cases {
		weights, code := impl.WeightsOf(c.c)
		wantNumbers(t, fmt.Sprintf("WeightsOf(%v)", c.c), weights, code, c.want, impl.ErrNone)
	}
}

func TestDistanceOf(t *testing.T) {
	cases := []struct {
		c    impl.Code
		want int64
	}{
		{codeWith(5, 1, []int64{1}), 1},
		{codeWith(2, 3, []int64{1, 1, 1}), 3},
		{codeWith(2, 3, []int64{1, 0, 1}, []int64{0, 1, 1}), 2},
		{codeWith(5, 3, []int64{0, 1, 0}), 1},
		// The least weight is not that of a row.
		{codeWith(2, 5, []int64{1, 0, 1, 1, 1}, []int64{0, 1, 1, 1, 1}), 2},
		{codeWith(5, 4, []int64{1, 0, 1, 2}, []int64{0, 1, 2, 4}), 2},
		{codeWith(2, 7, hammingRows()...), 3},
		{codeWith(3, 4, []int64{1, 0, 1, 1}, []int64{0, 1, 1, 2}), 3},
		{codeWith(13, 10, row(10, 1)), 10},
		{codeWith(2, 10, append(zeros(9), 1)), 1},
		{namedByHand("all", 2, 10), 1},
		{namedByHand("even", 2, 10), 2},
		{namedByHand("even", 3, 10), 2},
		{namedByHand("all", 3, 9), 1},
		{namedByHand("all", 11, 4), 1},
	}
	for _, c := range cases {
		distance, code := impl.DistanceOf(c.c)
		wantNumber(t, fmt.Sprintf("DistanceOf(%v)", c.c), distance, code, c.want, impl.ErrNone)
	}
	for _, p := range primes {
		for n := int64(1); n <= impl.MaxLength; n++ {
			distance, code := impl.DistanceOf(codeWith(p, n))
			wantNumber(t, fmt.Sprintf("DistanceOf of 0 alone for %d, %d", p, n), distance, code, 0, impl.ErrState)
		}
	}
}

// TestManyWords takes codes with as many rows as still have at most MaxWords words, and with one row more.
func TestManyWords(t *testing.T) {
	r := rand.New(rand.NewSource(111))
	most := map[int64]int64{2: 10, 3: 9, 5: 6, 7: 5, 11: 4, 13: 3}
	for _, p := range primes {
		for n := most[p]; n <= impl.MaxLength; n++ {
			for k := most[p] - 1; k <= n; k++ {
				rows := namedByHand("all", p, k).Rows
				for i := range rows {
					rows[i] = append(rows[i], randomRows(r, p, n-k, 1)[0]...)
				}
				c := codeWith(p, n, rows...)
				weights, ok := weightsOf(t, c)
				distance, code := impl.DistanceOf(c)
				if ok != (k <= most[p]) {
					t.Fatalf("WeightsOf with %d rows for %d: %v", k, p, weights)
				}
				if !ok {
					wantNumber(t, fmt.Sprintf("DistanceOf(%v)", c), distance, code, 0, impl.ErrLimit)
					continue
				}
				wantNumbers(t, fmt.Sprintf("WeightsOf(%v)", c), weights, impl.ErrNone, weightsByHand(c), impl.ErrNone)
				least, _ := distanceByHand(c)
				wantNumber(t, fmt.Sprintf("DistanceOf(%v)", c), distance, code, least, impl.ErrNone)
			}
		}
	}
}

func TestTransformWeights(t *testing.T) {
	good := []struct {
		p          int64
		list, want []int64
	}{
		{2, []int64{1, 0, 0, 1}, []int64{1, 0, 3, 0}},
		{2, []int64{1, 0, 3, 0}, []int64{1, 0, 0, 1}},
		{2, []int64{1, 0}, []int64{1, 1}},
		{2, []int64{1, 1}, []int64{1, 0}},
		{13, []int64{1, 0}, []int64{1, 12}},
		{13, []int64{1, 12}, []int64{1, 0}},
		// Numbers below 0 are whole ones too.
		{2, []int64{0, 1}, []int64{1, -1}},
		{13, []int64{0, 1}, []int64{1, -1}},
		{3, []int64{0, 0, 1}, []int64{1, -2, 1}},
		{3, []int64{0, 3, 0}, []int64{1, 1, -2}},
		{2, []int64{0, 2, 2}, []int64{1, -1, 0}},
		{5, []int64{0, 100000000}, []int64{1, -1}},
		{3, []int64{1, 2, 0}, []int64{1, 2, 0}},
		{3, []int64{1, 0, 0, 8, 0}, []int64{1, 0, 0, 8, 0}},
		{2, []int64{1, 0, 0, 7, 7, 0, 0, 1}, []int64{1, 0, 0, 0, 7, 0, 0, 0}},
		{2, []int64{5, 0, 0, 5}, []int64{1, 0, 3, 0}},
		{2, []int64{100000000, 0, 0, 100000000}, []int64{1, 0, 3, 0}},
		{2, []int64{100000000, 100000000}, []int64{1, 0}},
		{2, append(zeros(10), 1), []int64{1, -10, 45, -120, 210, -252, 210, -120, 45, -10, 1}},
		// The greatest numbers that there are.
		{13, begun(11, 1), []int64{1, 120, 6480, 207360, 4354560, 62705664, 627056640, 4299816960, 19349176320, 51597803520, 61917364224}},
		{13, begun(11, 100000000), []int64{1, 120, 6480, 207360, 4354560, 62705664, 627056640, 4299816960, 19349176320, 51597803520, 61917364224}},
		{13, append(zeros(10), 100000000), []int64{1, -10, 45, -120, 210, -252, 210, -120, 45, -10, 1}},
	}
	for _, c := range good {
		transform, code := impl.TransformWeights(c.p, c.list)
		wantNumbers(t, fmt.Sprintf("TransformWeights(%d, %v)", c.p, c.list), transform, code, c.want, impl.ErrNone)
	}
}

func TestTransformWeightsStates(t *testing.T) {
	for _, p := range primes {
		for count := 2; count <= impl.MaxLength+1; count++ {
			transform, code := impl.TransformWeights(p, zeros(count))
			wantNumbers(t, fmt.Sprintf("TransformWeights(%d, %d times 0)", p, count), transform, code, nil, impl.ErrState)
		}
	}
	cases := []struct {
		p    int64
		list []int64
	}{
		{2, []int64{1, 2}},
		{2, []int64{2, 1}},
		{3, []int64{1, 1}},
		{3, []int64{100000000, 99999999}},
		{2, []int64{1, 0, 2}},
		{5, []int64{2, 1, 0}},
		// Only the last number is none, or only one between others.
		{2, []int64{1, 1, 1}},
		{3, []int64{1, 0, 0, 0, 1}},
		{5, []int64{1, 0, 0, 2}},
		{2, []int64{1, 0, 1, 0, 1}},
		{2, []int64{1, 1, 0, 2, 2}},
		{3, []int64{1, 1, 0, 0}},
		{13, append(zeros(9), 1, 100000000)},
		{13, append([]int64{1}, row(10, 100000000)...)},
	}
	for _, c := range cases {
		if _, whole := transformByHand(c.p, c.list); whole {
			t.Errorf("the transform of %v for %d is whole", c.list, c.p)
		}
		transform, code := impl.TransformWeights(c.p, c.list)
		wantNumbers(t, fmt.Sprintf("TransformWeights(%d, %v)", c.p, c.list), transform, code, nil, impl.ErrState)
	}
}

func TestEnumeratorOf(t *testing.T) {
	cases := []struct {
		q    int64
		list []int64
		want string
	}{
		{5, []int64{1, 0, 1}, "1x2+1y2"},
		{5, []int64{0, 0}, "0"},
		{2, []int64{1, 0}, "1x"},
		{2, []int64{0, 1}, "1y"},
		{5, []int64{2, 3}, "2x+3y"},
		{5, []int64{5, 6}, "1y"},
		{5, []int64{5, 10}, "0"},
		{2, []int64{1, 2, 3}, "1x2+1y2"},
		{3, []int64{1, 2, 3, 4}, "1x3+2x2y+1y3"},
		{7, []int64{1, 0, 0, 7, 7, 0, 0, 1}, "1x7+1y7"},
		{13, []int64{1, 0, 0, 7, 7, 0, 0, 1}, "1x7+7x4y3+7x3y4+1y7"},
		{13, []int64{1, 2, 3, 4, 5, 6, 7, 8, 9, 10, 11}, "1x10+2x9y+3x8y2+4x7y3+5x6y4+6x5y5+7x4y6+8x3y7+9x2y8+10xy9+11y10"},
		{11, begun(11, 100000000), "1x10"},
		{13, append(zeros(10), 100000000), "9y10"},
		{3, []int64{100000000, 99999999}, "1x"},
		{7, zeros(11), "0"},
	}
	for _, c := range cases {
		f, code := impl.EnumeratorOf(c.q, c.list)
		wantPoly(t, fmt.Sprintf("EnumeratorOf(%d, %v)", c.q, c.list), f, code, parsed(t, c.q, 2, c.want))
	}
	r := rand.New(rand.NewSource(112))
	for _, q := range primes {
		for count := 2; count <= impl.MaxLength+1; count++ {
			for _, most := range []int64{2, q, 100, 100000001} {
				list := zeros(count)
				for i := range list {
					list[i] = r.Int63n(most)
				}
				f, code := impl.EnumeratorOf(q, list)
				wantPoly(t, fmt.Sprintf("EnumeratorOf(%d, %v)", q, list), f, code, enumeratorByHand(q, list))
				if !impl.IsPoly(f) {
					t.Errorf("EnumeratorOf(%d, %v) = %v is no polynomial", q, list, f)
				}
			}
		}
	}
}

// TestCountsErrors gives what is no prime, or no list, to both functions of lists; that is found before a sum of 0.
func TestCountsErrors(t *testing.T) {
	for _, p := range primes {
		for _, list := range noCounts() {
			transform, code := impl.TransformWeights(p, list)
			wantNumbers(t, fmt.Sprintf("TransformWeights(%d, %v)", p, list), transform, code, nil, impl.ErrRange)
			f, code := impl.EnumeratorOf(p, list)
			wantNoPoly(t, fmt.Sprintf("EnumeratorOf(%d, %v)", p, list), f, code, impl.ErrRange)
		}
	}
	for _, p := range noPrimes {
		for _, list := range append(noCounts(), []int64{1, 0}, []int64{1, 1}, []int64{0, 0}, []int64{1, 2}, zeros(11)) {
			transform, code := impl.TransformWeights(p, list)
			wantNumbers(t, fmt.Sprintf("TransformWeights(%d, %v)", p, list), transform, code, nil, impl.ErrRange)
			f, code := impl.EnumeratorOf(p, list)
			wantNoPoly(t, fmt.Sprintf("EnumeratorOf(%d, %v)", p, list), f, code, impl.ErrRange)
		}
	}
}

func TestIsSelfDual(t *testing.T) {
	cases := []struct {
		c    impl.Code
		want bool
	}{
		{codeWith(2, 2, []int64{1, 1}), true},
		{codeWith(5, 2, []int64{1, 2}), true},
		{codeWith(5, 2, []int64{1, 3}), true},
		{codeWith(13, 2, []int64{1, 5}), true},
		{codeWith(13, 2, []int64{1, 8}), true},
		{codeWith(3, 4, []int64{1, 0, 1, 1}, []int64{0, 1, 1, 2}), true},
		{codeWith(2, 4, []int64{1, 0, 1, 0}, []int64{0, 1, 0, 1}), true},
		{codeWith(2, 4, []int64{1, 0, 0, 1}, []int64{0, 1, 1, 0}), true},
		{codeWith(2, 8, []int64{1, 0, 0, 0, 0, 1, 1, 1}, []int64{0, 1, 0, 0, 1, 0, 1, 1}, []int64{0, 0, 1, 0, 1, 1, 0, 1}, []int64{0, 0, 0, 1, 1, 1, 1, 0}), true},
		{codeWith(7, 4, []int64{1, 0, 2, 3}, []int64{0, 1, 3, 5}), true},
		{codeWith(2, 1), false},
		{codeWith(2, 1, []int64{1}), false},
		{codeWith(2, 2), false},
		{codeWith(2, 2, []int64{1, 0}), false},
		{codeWith(2, 2, []int64{0, 1}), false},
		{codeWith(2, 2, []int64{1, 0}, []int64{0, 1}), false},
		{codeWith(3, 2, []int64{1, 1}), false},
		{codeWith(3, 2, []int64{1, 2}), false},
		{codeWith(5, 2, []int64{1, 1}), false},
		{codeWith(13, 2, []int64{1, 4}), false},
		// Equal to its dual with the numbers in another order.
		{codeWith(5, 2, []int64{1, 0}), false},
		// All products are 0, but there are too few rows.
		{codeWith(2, 4, []int64{1, 1, 1, 1}), false},
		{codeWith(3, 3, []int64{1, 1, 1}), false},
		{codeWith(3, 6, []int64{1, 1, 1, 0, 0, 0}, []int64{0, 0, 0, 1, 1, 1}), false},
		// As many rows, but only products of each with itself, or of different ones, are 0.
		{codeWith(2, 4, []int64{1, 0, 1, 0}, []int64{0, 1, 1, 0}), false},
		{codeWith(3, 4, []int64{1, 0, 1, 0}, []int64{0, 1, 0, 1}), false},
		{codeWith(2, 7, hammingRows()...), false},
		{namedByHand("all", 13, 10), false},
		{namedByHand("zero", 13, 10), false},
	}
	for _, c := range cases {
		yes, code := impl.IsSelfDual(c.c)
		wantBool(t, fmt.Sprintf("IsSelfDual(%v)", c.c), yes, code, c.want)
	}
	five := codeWith(2, 10)
	for i := range 5 {
		five.Rows = append(five.Rows, begun(10))
		five.Rows[i][2*i], five.Rows[i][2*i+1] = 1, 1
	}
	yes, code := impl.IsSelfDual(five)
	wantBool(t, "IsSelfDual of five pairs", yes, code, true)
}

func TestAddCodes(t *testing.T) {
	pair := codeWith(2, 2, []int64{1, 1})
	cases := []struct{ c, d, want impl.Code }{
		{pair, pair, codeWith(2, 4, []int64{1, 1, 0, 0}, []int64{0, 0, 1, 1})},
		{codeWith(5, 1), codeWith(5, 1), codeWith(5, 2)},
		{codeWith(5, 1, []int64{1}), codeWith(5, 1), codeWith(5, 2, []int64{1, 0})},
		{codeWith(5, 1), codeWith(5, 1, []int64{1}), codeWith(5, 2, []int64{0, 1})},
		{codeWith(5, 1, []int64{1}), codeWith(5, 1, []int64{1}), codeWith(5, 2, []int64{1, 0}, []int64{0, 1})},
		{codeWith(5, 2, []int64{1, 3}), codeWith(5, 3, []int64{0, 1, 2}), codeWith(5, 5, []int64{1, 3, 0, 0, 0}, []int64{0, 0, 0, 1, 2})},
		{codeWith(5, 3, []int64{0, 1, 2}), codeWith(5, 2, []int64{1, 3}), codeWith(5, 5, []int64{0, 1, 2, 0, 0}, []int64{0, 0, 0, 1, 3})},
		{codeWith(3, 3, []int64{1, 2, 0}, []int64{0, 0, 1}), codeWith(3, 2), codeWith(3, 5, []int64{1, 2, 0, 0, 0}, []int64{0, 0, 1, 0, 0})},
		// The Length is exactly MaxLength.
		{codeWith(13, 5, row(5, 1)), codeWith(13, 5), codeWith(13, 10, begun(10, row(5, 1)...))},
		{codeWith(13, 9), codeWith(13, 1, []int64{1}), codeWith(13, 10, append(zeros(9), 1))},
		{codeWith(13, 1, []int64{1}), codeWith(13, 9, row(9, 1)), codeWith(13, 10, begun(10, 1), append(zeros(1), row(9, 1)...))},
		{namedByHand("all", 13, 4), namedByHand("all", 13, 6), namedByHand("all", 13, 10)},
	}
	for _, c := range cases {
		both, code := impl.AddCodes(c.c, c.d)
		wantCode(t, fmt.Sprintf("AddCodes(%v, %v)", c.c, c.d), both, code, c.want)
	}
}

// TestAddCodesErrors finds what is no code before different primes, and these before a Length that is too great.
func TestAddCodesErrors(t *testing.T) {
	for why, bad := range noCodes() {
		for _, good := range []impl.Code{codeWith(5, 1), codeWith(5, 10, row(10, 1)), codeWith(3, 2, []int64{1, 1}), codeWith(3, 10)} {
			both, code := impl.AddCodes(bad, good)
			wantNoCode(t, fmt.Sprintf("AddCodes(%s, %v)", why, good), both, code, impl.ErrInvalid)
			both, code = impl.AddCodes(good, bad)
			wantNoCode(t, fmt.Sprintf("AddCodes(%v, %s)", good, why), both, code, impl.ErrInvalid)
		}
		both, code := impl.AddCodes(bad, bad)
		wantNoCode(t, fmt.Sprintf("AddCodes of %s twice", why), both, code, impl.ErrInvalid)
	}
	for _, p := range primes {
		for _, q := range primes {
			for m := int64(1); m <= impl.MaxLength; m++ {
				for n := int64(1); n <= impl.MaxLength; n++ {
					both, code := impl.AddCodes(codeWith(p, m), codeWith(q, n, row(int(n), 1)))
					what := fmt.Sprintf("AddCodes for %d, %d and %d, %d", p, m, q, n)
					switch {
					case p != q:
						wantNoCode(t, what, both, code, impl.ErrRange)
					case m+n > impl.MaxLength:
						wantNoCode(t, what, both, code, impl.ErrLimit)
					default:
						wantCode(t, what, both, code, codeWith(p, m+n, append(zeros(int(m)), row(int(n), 1)...)))
					}
				}
			}
		}
	}
}

func TestExtendCode(t *testing.T) {
	cases := []struct{ c, want impl.Code }{
		{codeWith(5, 1), codeWith(5, 2)},
		{codeWith(5, 1, []int64{1}), codeWith(5, 2, []int64{1, 4})},
		{codeWith(2, 1, []int64{1}), codeWith(2, 2, []int64{1, 1})},
		{codeWith(2, 3, []int64{1, 1, 1}), codeWith(2, 4, []int64{1, 1, 1, 1})},
		{codeWith(3, 3, []int64{1, 1, 1}), codeWith(3, 4, []int64{1, 1, 1, 0})},
		{codeWith(2, 2, []int64{1, 1}), codeWith(2, 3, []int64{1, 1, 0})},
		{codeWith(5, 3, []int64{1, 0, 3}, []int64{0, 1, 4}), codeWith(5, 4, []int64{1, 0, 3, 1}, []int64{0, 1, 4, 0})},
		{codeWith(13, 3, []int64{1, 0, 12}, []int64{0, 1, 11}), codeWith(13, 4, []int64{1, 0, 12, 0}, []int64{0, 1, 11, 1})},
		{
			codeWith(2, 7, hammingRows()...),
			codeWith(2, 8, []int64{1, 0, 0, 0, 0, 1, 1, 1}, []int64{0, 1, 0, 0, 1, 0, 1, 1}, []int64{0, 0, 1, 0, 1, 1, 0, 1}, []int64{0, 0, 0, 1, 1, 1, 1, 0}),
		},
		// The Length becomes MaxLength.
		{codeWith(11, 9), codeWith(11, 10)},
		{codeWith(11, 9, row(9, 1)), codeWith(11, 10, append(row(9, 1), 2))},
		{codeWith(11, 9, []int64{0, 1, 10, 10, 10, 10, 10, 10, 10}), codeWith(11, 10, []int64{0, 1, 10, 10, 10, 10, 10, 10, 10, 6})},
		{namedByHand("all", 13, 9), namedByHand("even", 13, 10)},
	}
	for _, c := range cases {
		extended, code := impl.ExtendCode(c.c)
		wantCode(t, fmt.Sprintf("ExtendCode(%v)", c.c), extended, code, c.want)
	}
	for _, name := range codeNames {
		for _, p := range primes {
			extended, code := impl.ExtendCode(namedByHand(name, p, impl.MaxLength))
			wantNoCode(t, fmt.Sprintf("ExtendCode of %s for %d", name, p), extended, code, impl.ErrLimit)
		}
	}
}

// placedCase is a code with what becomes of it at a place.
type placedCase struct {
	c                    impl.Code
	i                    int64
	punctured, shortened impl.Code
}

func placedCases() []placedCase {
	even := codeWith(2, 3, []int64{1, 0, 1}, []int64{0, 1, 1})
	all2, both := codeWith(2, 2, []int64{1, 0}, []int64{0, 1}), codeWith(2, 2, []int64{1, 1})
	return []placedCase{
		{even, 0, all2, both},
		{even, 1, all2, both},
		{even, 2, all2, both},
		{codeWith(2, 3, []int64{1, 1, 1}), 0, both, codeWith(2, 2)},
		{codeWith(2, 3, []int64{1, 1, 1}), 2, both, codeWith(2, 2)},
		{codeWith(5, 2), 0, codeWith(5, 1), codeWith(5, 1)},
		{codeWith(5, 2), 1, codeWith(5, 1), codeWith(5, 1)},
		{codeWith(5, 2, []int64{1, 0}), 0, codeWith(5, 1), codeWith(5, 1)},
		{codeWith(5, 2, []int64{1, 0}), 1, codeWith(5, 1, []int64{1}), codeWith(5, 1, []int64{1})},
		{codeWith(5, 2, []int64{1, 3}), 0, codeWith(5, 1, []int64{1}), codeWith(5, 1)},
		{codeWith(5, 2, []int64{1, 3}), 1, codeWith(5, 1, []int64{1}), codeWith(5, 1)},
		{codeWith(5, 2, []int64{1, 0}, []int64{0, 1}), 0, codeWith(5, 1, []int64{1}), codeWith(5, 1, []int64{1})},
		// The row that begins at the place has to be reduced again, or goes away.
		{codeWith(7, 3, []int64{1, 2, 3}), 0, codeWith(7, 2, []int64{1, 5}), codeWith(7, 2)},
		{codeWith(7, 3, []int64{1, 0, 2}, []int64{0, 1, 4}), 0, codeWith(7, 2, []int64{1, 0}, []int64{0, 1}), codeWith(7, 2, []int64{1, 4})},
		{codeWith(7, 3, []int64{1, 0, 2}, []int64{0, 1, 4}), 1, codeWith(7, 2, []int64{1, 0}, []int64{0, 1}), codeWith(7, 2, []int64{1, 2})},
		{codeWith(7, 3, []int64{1, 0, 2}, []int64{0, 1, 4}), 2, codeWith(7, 2, []int64{1, 0}, []int64{0, 1}), codeWith(7, 2, []int64{1, 3})},
		{codeWith(5, 4, []int64{1, 0, 0, 2}, []int64{0, 1, 0, 3}, []int64{0, 0, 1, 0}), 3,
			codeWith(5, 3, []int64{1, 0, 0}, []int64{0, 1, 0}, []int64{0, 0, 1}), codeWith(5, 3, []int64{1, 1, 0}, []int64{0, 0, 1})},
		{codeWith(5, 4, []int64{1, 0, 2, 0}, []int64{0, 0, 0, 1}), 1,
			codeWith(5, 3, []int64{1, 2, 0}, []int64{0, 0, 1}), codeWith(5, 3, []int64{1, 2, 0}, []int64{0, 0, 1})},
		{namedByHand("all", 13, 10), 9, namedByHand("all", 13, 9), namedByHand("all", 13, 9)},
		{namedByHand("even", 13, 10), 0, namedByHand("all", 13, 9), namedByHand("even", 13, 9)},
		{namedByHand("even", 13, 10), 9, namedByHand("all", 13, 9), namedByHand("even", 13, 9)},
		{namedByHand("repeat", 13, 10), 5, namedByHand("repeat", 13, 9), namedByHand("zero", 13, 9)},
		{codeWith(13, 10), 0, codeWith(13, 9), codeWith(13, 9)},
	}
}

func TestPlacesOfCodes(t *testing.T) {
	for _, c := range placedCases() {
		punctured, code := impl.PunctureCode(c.c, c.i)
		wantCode(t, fmt.Sprintf("PunctureCode(%v, %d)", c.c, c.i), punctured, code, c.punctured)
		shortened, code := impl.ShortenCode(c.c, c.i)
		wantCode(t, fmt.Sprintf("ShortenCode(%v, %d)", c.c, c.i), shortened, code, c.shortened)
	}
}

// placedCalls are the functions of codes and places.
func placedCalls() map[string]func(c impl.Code, i int64) (impl.Code, int64) {
	return map[string]func(c impl.Code, i int64) (impl.Code, int64){"PunctureCode": impl.PunctureCode, "ShortenCode": impl.ShortenCode}
}

// TestPlacesErrors finds what is no code before what is no place, and this before a Length of 1.
func TestPlacesErrors(t *testing.T) {
	outside := []int64{-1, -2, -10, -256, 1 << 32, math.MinInt64, math.MinInt64 + 1, math.MaxInt64}
	for name, call := range placedCalls() {
		for why, c := range noCodes() {
			for _, i := range append(outside, 0, 1, 9, c.Length, c.Length-1) {
				got, code := call(c, i)
				wantNoCode(t, fmt.Sprintf("%s of %s at %d", name, why, i), got, code, impl.ErrInvalid)
			}
		}
		for _, c := range goodCodes() {
			for _, i := range append(outside, c.Length, c.Length+1, 10, 11, 256) {
				got, code := call(c, i)
				wantNoCode(t, fmt.Sprintf("%s(%v, %d)", name, c, i), got, code, impl.ErrRange)
			}
			if c.Length == 1 {
				got, code := call(c, 0)
				wantNoCode(t, fmt.Sprintf("%s(%v, 0)", name, c), got, code, impl.ErrState)
			}
		}
	}
}

func TestNamedCode(t *testing.T) {
	cases := []struct {
		name string
		p, n int64
		want [][]int64
	}{
		{"repeat", 2, 1, [][]int64{{1}}},
		{"repeat", 5, 3, [][]int64{{1, 1, 1}}},
		{"even", 2, 1, nil},
		{"even", 13, 1, nil},
		{"even", 2, 2, [][]int64{{1, 1}}},
		{"even", 5, 2, [][]int64{{1, 4}}},
		{"even", 2, 3, [][]int64{{1, 0, 1}, {0, 1, 1}}},
		{"even", 3, 4, [][]int64{{1, 0, 0, 2}, {0, 1, 0, 2}, {0, 0, 1, 2}}},
		{"all", 2, 1, [][]int64{{1}}},
		{"all", 7, 3, [][]int64{{1, 0, 0}, {0, 1, 0}, {0, 0, 1}}},
		{"zero", 2, 1, nil},
		{"zero", 7, 3, nil},
		{"zero", 7, 10, nil},
		{"repeat", 13, 10, [][]int64{row(10, 1)}},
	}
	for _, c := range cases {
		got, code := impl.NamedCode(c.name, c.p, c.n)
		wantCode(t, fmt.Sprintf("NamedCode(%q, %d, %d)", c.name, c.p, c.n), got, code, codeWith(c.p, c.n, c.want...))
	}
	for _, name := range codeNames {
		for _, p := range primes {
			for n := int64(1); n <= impl.MaxLength; n++ {
				got, code := impl.NamedCode(name, p, n)
				wantCode(t, fmt.Sprintf("NamedCode(%q, %d, %d)", name, p, n), got, code, namedByHand(name, p, n))
			}
		}
	}
}

// TestNamedCodeErrors finds primes and Lengths that are none before names that are none.
func TestNamedCodeErrors(t *testing.T) {
	others := []string{
		"", " ", "Repeat", "EVEN", "All", "repeat ", " zero", "repea", "repeatt", "eve", "even\n", "al", "alll", "zer", "zeros", "0", "none",
		"repeat\x00", "all all", "odd", "hamming", "point", "swap", "minus", "repeat,even", "\xff",
	}
	for _, name := range others {
		for _, p := range primes {
			for n := int64(1); n <= impl.MaxLength; n++ {
				got, code := impl.NamedCode(name, p, n)
				wantNoCode(t, fmt.Sprintf("NamedCode(%q, %d, %d)", name, p, n), got, code, impl.ErrNotFound)
			}
		}
	}
	for _, name := range append(others, codeNames...) {
		for _, p := range append(noPrimes, primes...) {
			for _, n := range outsideLengths {
				got, code := impl.NamedCode(name, p, n)
				wantNoCode(t, fmt.Sprintf("NamedCode(%q, %d, %d)", name, p, n), got, code, impl.ErrRange)
			}
		}
		for _, p := range noPrimes {
			for n := int64(1); n <= impl.MaxLength; n++ {
				got, code := impl.NamedCode(name, p, n)
				wantNoCode(t, fmt.Sprintf("NamedCode(%q, %d, %d)", name, p, n), got, code, impl.ErrRange)
			}
		}
	}
}

func TestIsWordOf(t *testing.T) {
	even := codeWith(2, 3, []int64{1, 0, 1}, []int64{0, 1, 1})
	mixed := codeWith(5, 4, []int64{1, 2, 0, 3}, []int64{0, 0, 1, 4})
	cases := []struct {
		c    impl.Code
		word []int64
		want bool
	}{
		{even, []int64{1, 0, 1}, true},
		{even, []int64{0, 1, 1}, true},
		{even, []int64{1, 1, 0}, true},
		{even, []int64{0, 0, 0}, true},
		{even, []int64{1, 0, 0}, false},
		{even, []int64{0, 0, 1}, false},
		{even, []int64{1, 1, 1}, false},
		{mixed, []int64{1, 2, 0, 3}, true},
		{mixed, []int64{2, 4, 0, 1}, true},
		{mixed, []int64{2, 4, 3, 3}, true},
		{mixed, []int64{0, 0, 4, 1}, true},
		{mixed, []int64{2, 4, 3, 2}, false},
		{mixed, []int64{2, 3, 3, 3}, false},
		{mixed, []int64{0, 1, 0, 0}, false},
		{mixed, []int64{0, 0, 0, 1}, false},
		{codeWith(5, 2), []int64{0, 0}, true},
		{codeWith(5, 2), []int64{0, 1}, false},
		{codeWith(5, 2), []int64{4, 0}, false},
		{codeWith(5, 1), []int64{0}, true},
		{codeWith(5, 1), []int64{1}, false},
		{codeWith(5, 1, []int64{1}), []int64{4}, true},
		{codeWith(13, 10), zeros(10), true},
		{codeWith(13, 10), append(zeros(9), 1), false},
		{codeWith(13, 10, row(10, 1)), row(10, 12), true},
		{codeWith(13, 10, row(10, 1)), append(row(9, 12), 11), false},
		{namedByHand("all", 13, 10), []int64{0, 1, 2, 3, 4, 5, 12, 7, 8, 9}, true},
	}
	for _, c := range cases {
		yes, code := impl.IsWordOf(c.c, c.word)
		wantBool(t, fmt.Sprintf("IsWordOf(%v, %v)", c.c, c.word), yes, code, c.want)
	}
}

// noWordsFor are lists that no code for p of the Length n has as words, each for one reason.
func noWordsFor(p int64, n int) [][]int64 {
	lists := [][]int64{row(n-1, 0), row(n+1, 0), row(n+1, 1), row(n+256, 0), row(n-1, 1), nil, {}}
	for _, bad := range []int64{-1, p, p + 1, -p, 256, 256 * p, 1 << 32, math.MinInt64, math.MaxInt64} {
		for _, i := range []int{0, n / 2, n - 1} {
			word := zeros(n)
			word[i] = bad
			lists = append(lists, word)
		}
	}
	return lists
}

func TestIsWordOfErrors(t *testing.T) {
	for _, c := range goodCodes() {
		for _, word := range noWordsFor(c.Prime, int(c.Length)) {
			yes, code := impl.IsWordOf(c, word)
			wantZero(t, fmt.Sprintf("IsWordOf(%v, %v)", c, word), !yes, code, impl.ErrRange)
		}
	}
	for why, c := range noCodes() {
		for _, word := range [][]int64{nil, {}, {0}, {1}, {0, 0}, {1, 1}, {-1, 7}, {1, 0, 0}, zeros(10), zeros(11), row(11, 99)} {
			yes, code := impl.IsWordOf(c, word)
			wantZero(t, fmt.Sprintf("IsWordOf(%s, %v)", why, word), !yes, code, impl.ErrInvalid)
		}
	}
}

// TestNoCodes gives what is no code to all functions of one code: that is found before words that are too many, before
// none but 0, and before a Length that is too great.
func TestNoCodes(t *testing.T) {
	for why, c := range noCodes() {
		codes := map[string]func(c impl.Code) (impl.Code, int64){"DualCode": impl.DualCode, "ExtendCode": impl.ExtendCode}
		for name, call := range codes {
			got, code := call(c)
			wantNoCode(t, name+" of "+why, got, code, impl.ErrInvalid)
		}
		weights, code := impl.WeightsOf(c)
		wantNumbers(t, "WeightsOf of "+why, weights, code, nil, impl.ErrInvalid)
		distance, code := impl.DistanceOf(c)
		wantNumber(t, "DistanceOf of "+why, distance, code, 0, impl.ErrInvalid)
		yes, code := impl.IsSelfDual(c)
		wantZero(t, "IsSelfDual of "+why, !yes, code, impl.ErrInvalid)
	}
}
