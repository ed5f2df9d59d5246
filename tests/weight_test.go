package tests

import (
	"fmt"
	"testing"

	"loop.example/g01125/impl"
)

// Promise 5, function by function: each result is held against what the tests count or find by another way.

func TestWeightFreeCells(t *testing.T) {
	for i, lengths := range allLengthLists() {
		if len(lengths) == 6 && i%11 != 0 && lengths[0] < 6 {
			continue
		}
		walkPlacings(lengths, func(list []int) {
			if n, ok := impl.FreeCells(lengths, list); !ok || n != freeIn(lengths, list) {
				t.Errorf("FreeCells %v %v: %d %v instead of %d", lengths, list, n, ok, freeIn(lengths, list))
			}
		})
	}
	for n := 1; n <= 4; n++ {
		for _, lengths := range lengthLists(n) {
			p := pictureOfLengths(lengths)
			for _, list := range append(allLists(n, -2, n), wrongPlacings(p.board())...) {
				if n, ok := impl.FreeCells(lengths, list); ok != isPlacing(p, list) {
					t.Errorf("FreeCells %v %v: %d %v", lengths, list, n, ok)
				} else if !ok {
					fails(t, fmt.Sprint("FreeCells ", lengths, list), n, ok)
				}
			}
		}
	}
	for i, lengths := range lengthLists(6) {
		if i%17 == 0 || lengths[0] == 6 {
			for _, list := range wrongPlacings(pictureOfLengths(lengths).board()) {
				fails(t, fmt.Sprint("FreeCells ", lengths, list), both(impl.FreeCells(lengths, list))...)
			}
		}
	}
}

func TestWeightFreeCellsKnown(t *testing.T) {
	known := []struct {
		lengths, list []int
		free          int
	}{
		{[]int{1, 2}, []int{0, -1}, 1}, {[]int{1, 2}, []int{-1, 0}, 1}, {[]int{1, 2}, []int{-1, 1}, 2},
		{[]int{1, 2}, []int{-1, -1}, 3}, {[]int{1, 2}, []int{0, 1}, 0},
		{[]int{0}, []int{-1}, 0}, {[]int{1}, []int{-1}, 1}, {[]int{1}, []int{0}, 0},
		{[]int{0, 0, 0, 0, 0, 0}, []int{-1, -1, -1, -1, -1, -1}, 0},
		{[]int{6, 6, 6, 6, 6, 6}, []int{-1, -1, -1, -1, -1, -1}, 36},
		{[]int{6, 6, 6, 6, 6, 6}, []int{0, 1, 2, 3, 4, 5}, 0},
		{[]int{6, 6, 6, 6, 6, 6}, []int{5, 4, 3, 2, 1, 0}, 15},
		{[]int{6, 6, 6, 6, 6, 6}, []int{-1, -1, -1, -1, -1, 5}, 35},
		{[]int{6, 6, 6, 6, 6, 6}, []int{0, -1, -1, -1, -1, -1}, 25},
		{[]int{2, 2}, []int{1, -1}, 2}, {[]int{2, 2}, []int{1, 0}, 1}, {[]int{2, 2}, []int{0, 1}, 0},
		{[]int{0, 0, 3}, []int{-1, -1, 2}, 2}, {[]int{0, 0, 3}, []int{-1, -1, 0}, 0},
	}
	for _, k := range known {
		if n, ok := impl.FreeCells(k.lengths, k.list); !ok || n != k.free {
			t.Errorf("FreeCells %v %v: %d %v instead of %d", k.lengths, k.list, n, ok, k.free)
		}
	}
}

func TestWeightLists(t *testing.T) {
	for _, lengths := range allLengthLists() {
		want := weightLists(lengths)
		for k := range want {
			if got, ok := impl.WeightsOf(lengths, k); !ok || !sameList(got, want[k]) {
				t.Errorf("WeightsOf %v %d: %v %v instead of %v", lengths, k, got, ok, want[k])
			}
		}
		if got, ok := impl.AllWeights(lengths); !ok || !sameLists(got, want) {
			t.Errorf("AllWeights %v: %v %v instead of %v", lengths, got, ok, want)
		}
		for _, k := range wrongCounts(0, len(lengths)) {
			if k < 0 || k > len(lengths) {
				fails(t, fmt.Sprint("WeightsOf ", lengths, k), both(impl.WeightsOf(lengths, k))...)
			}
		}
	}
	known := []struct {
		lengths []int
		weights [][]int
	}{
		{[]int{1, 2}, [][]int{{0, 0, 0, 1}, {0, 2, 1}, {1}}},
		{[]int{0}, [][]int{{1}, {}}},
		{[]int{1}, [][]int{{0, 1}, {1}}},
		{[]int{0, 0}, [][]int{{1}, {}, {}}},
		{[]int{0, 2}, [][]int{{0, 0, 1}, {1, 1}, {}}},
		{[]int{2, 2}, [][]int{{0, 0, 0, 0, 1}, {0, 1, 2, 1}, {1, 1}}},
		{[]int{0, 1, 2}, [][]int{{0, 0, 0, 1}, {0, 2, 1}, {1}, {}}},
		{[]int{3, 3, 3}, [][]int{{0, 0, 0, 0, 0, 0, 0, 0, 0, 1}, {0, 0, 0, 0, 1, 2, 3, 2, 1}, {0, 1, 3, 5, 5, 3, 1}, {1, 2, 2, 1}}},
		{[]int{1, 1, 1, 1, 1, 1}, [][]int{{0, 0, 0, 0, 0, 0, 1}, {1, 1, 1, 1, 1, 1}, {}, {}, {}, {}, {}}},
		{[]int{0, 0, 0, 0, 0, 0}, [][]int{{1}, {}, {}, {}, {}, {}, {}}},
	}
	for _, want := range known {
		if got, ok := impl.AllWeights(want.lengths); !ok || !sameLists(got, want.weights) {
			t.Errorf("AllWeights %v: %v %v instead of %v", want.lengths, got, ok, want.weights)
		}
		for k := range want.weights {
			if got, ok := impl.WeightsOf(want.lengths, k); !ok || !sameList(got, want.weights[k]) {
				t.Errorf("WeightsOf %v %d: %v %v instead of %v", want.lengths, k, got, ok, want.weights[k])
			}
		}
	}
}

func TestWeightAt(t *testing.T) {
	for _, lengths := range allLengthLists() {
		for k, weights := range weightLists(lengths) {
			for q := 2; q <= 3; q++ {
				if got, ok := impl.WeightAt(lengths, k, q); !ok || got != valueAt(weights, q) {
					t.Errorf("WeightAt %v %d %d: %d %v instead of %d", lengths, k, q, got, ok, valueAt(weights, q))
				}
			}
			for _, q := range wrongModuli() {
				fails(t, fmt.Sprint("WeightAt ", lengths, k, q), both(impl.WeightAt(lengths, k, q))...)
			}
		}
		for _, k := range wrongCounts(0, len(lengths)) {
			for q := 1; q <= 4; q++ {
				if k < 0 || k > len(lengths) {
					fails(t, fmt.Sprint("WeightAt ", lengths, k, q), both(impl.WeightAt(lengths, k, q))...)
				}
			}
		}
	}
	known := []struct {
		lengths  []int
		k, q, at int
	}{
		{[]int{1, 2}, 1, 2, 8}, {[]int{1, 2}, 1, 3, 15}, {[]int{1, 2}, 0, 2, 8}, {[]int{1, 2}, 0, 3, 27}, {[]int{1, 2}, 2, 3, 1},
		{[]int{0}, 0, 2, 1}, {[]int{0}, 1, 2, 0}, {[]int{1}, 0, 3, 3}, {[]int{1}, 1, 3, 1},
		{[]int{6, 6, 6, 6, 6, 6}, 0, 2, 1 << 36}, {[]int{6, 6, 6, 6, 6, 6}, 0, 3, 150094635296999121},
		{[]int{6, 6, 6, 6, 6, 6}, 6, 2, 3 * 7 * 15 * 31 * 63}, {[]int{6, 6, 6, 6, 6, 6}, 6, 3, 4 * 13 * 40 * 121 * 364},
		{[]int{6, 6, 6, 6, 6, 6}, 1, 2, 1 << 25 * 63 * 63}, {[]int{0, 0, 0, 0, 0, 0}, 6, 3, 0},
	}
	for _, k := range known {
		if got, ok := impl.WeightAt(k.lengths, k.k, k.q); !ok || got != k.at {
			t.Errorf("WeightAt %v %d %d: %d %v instead of %d", k.lengths, k.k, k.q, got, ok, k.at)
		}
	}
}

func TestWeightBracketOf(t *testing.T) {
	for m := 0; m <= 20; m++ {
		for q := 2; q <= 3; q++ {
			want := bracketTold(m, q)
			if (q-1)*want != raised(q, m)-1 {
				t.Fatalf("the bracket of %d and %d is %d", m, q, want)
			}
			if got, ok := impl.BracketOf(m, q); !ok || got != want {
				t.Errorf("BracketOf %d %d: %d %v instead of %d", m, q, got, ok, want)
			}
		}
		for _, q := range wrongModuli() {
			fails(t, fmt.Sprint("BracketOf ", m, q), both(impl.BracketOf(m, q))...)
		}
	}
	for _, m := range wrongCounts(0, 20) {
		for q := 1; q <= 4; q++ {
			if m < 0 || m > 20 {
				fails(t, fmt.Sprint("BracketOf ", m, q), both(impl.BracketOf(m, q))...)
			}
		}
	}
	known := [][3]int{{0, 2, 0}, {0, 3, 0}, {1, 2, 1}, {1, 3, 1}, {2, 2, 3}, {2, 3, 4}, {3, 2, 7}, {3, 3, 13}, {20, 2, 1048575}, {20, 3, 1743392200}}
	for _, k := range known {
		if got, ok := impl.BracketOf(k[0], k[1]); !ok || got != k[2] {
			t.Errorf("BracketOf %d %d: %d %v instead of %d", k[0], k[1], got, ok, k[2])
		}
	}
}

// weightedTold tells both sides of what WeightedSumAt and WeightedProductAt are: by counted weights, and by lengths.
func weightedTold(lengths []int, q, x int) (sum, product int) {
	for k, weights := range weightLists(lengths) {
		term := valueAt(weights, q)
		for m := x; m > x-len(lengths)+k; m-- {
			term *= bracketTold(m, q)
		}
		sum += term
	}
	product = 1
	for i, length := range lengths {
		product *= bracketTold(x+length-i, q)
	}
	return sum, product
}

func TestWeightedSumAndProduct(t *testing.T) {
	for _, lengths := range allLengthLists() {
		n := len(lengths)
		for x := 0; x <= 9; x++ {
			for q := 1; q <= 4; q++ {
				sum, okSum := impl.WeightedSumAt(lengths, q, x)
				product, okProduct := impl.WeightedProductAt(lengths, q, x)
				if n > 4 || x < n || x > 8 || q < 2 || q > 3 {
					fails(t, fmt.Sprint("WeightedSumAt ", lengths, q, x), sum, okSum)
					fails(t, fmt.Sprint("WeightedProductAt ", lengths, q, x), product, okProduct)
					continue
				}
				wantSum, wantProduct := weightedTold(lengths, q, x)
				if wantSum != wantProduct {
					t.Fatalf("%v, %d, %d: the sum is %d, and the product %d", lengths, q, x, wantSum, wantProduct)
				}
				if !okSum || sum != wantSum {
					t.Errorf("WeightedSumAt %v %d %d: %d %v instead of %d", lengths, q, x, sum, okSum, wantSum)
				}
				if !okProduct || product != wantProduct {
					t.Errorf("WeightedProductAt %v %d %d: %d %v instead of %d", lengths, q, x, product, okProduct, wantProduct)
				}
			}
		}
	}
	known := []struct {
		lengths    []int
		q, x, both int
	}{
		{[]int{0}, 2, 1, 1}, {[]int{0}, 2, 8, 255}, {[]int{1}, 2, 1, 3}, {[]int{1}, 3, 8, 9841},
		{[]int{1, 2}, 2, 2, 49}, {[]int{2, 2}, 2, 2, 105}, {[]int{0, 1, 2}, 3, 3, 2197}, {[]int{0, 0, 0, 0}, 2, 4, 315},
		{[]int{4, 4, 4, 4}, 3, 8, 265720 * 88573 * 29524 * 9841}, {[]int{4, 4, 4, 4}, 2, 4, 255 * 127 * 63 * 31},
	}
	for _, k := range known {
		if got, ok := impl.WeightedSumAt(k.lengths, k.q, k.x); !ok || got != k.both {
			t.Errorf("WeightedSumAt %v %d %d: %d %v instead of %d", k.lengths, k.q, k.x, got, ok, k.both)
		}
		if got, ok := impl.WeightedProductAt(k.lengths, k.q, k.x); !ok || got != k.both {
			t.Errorf("WeightedProductAt %v %d %d: %d %v instead of %d", k.lengths, k.q, k.x, got, ok, k.both)
		}
	}
}

func TestWeightedFarArguments(t *testing.T) {
	for _, lengths := range [][]int{{0}, {1}, {1, 2}, {0, 1, 2}, {4, 4, 4, 4}, {0, 0, 0, 0}, {0, 0, 0, 0, 0}, {5, 5, 5, 5, 5}, {6, 6, 6, 6, 6, 6}} {
		for _, x := range wrongCounts(len(lengths), 8) {
			if x < len(lengths) || x > 8 {
				fails(t, fmt.Sprint("WeightedSumAt ", lengths, x), both(impl.WeightedSumAt(lengths, 2, x))...)
				fails(t, fmt.Sprint("WeightedProductAt ", lengths, x), both(impl.WeightedProductAt(lengths, 3, x))...)
			}
		}
		for _, q := range wrongModuli() {
			fails(t, fmt.Sprint("WeightedSumAt ", lengths, q), both(impl.WeightedSumAt(lengths, q, 6))...)
			fails(t, fmt.Sprint("WeightedProductAt ", lengths, q), both(impl.WeightedProductAt(lengths, q, 6))...)
		}
	}
}

func TestWeightRankCounts(t *testing.T) {
	counted, others := 0, 0
	for _, lengths := range allLengthLists() {
		for q := 2; q <= 3; q++ {
			got, ok := impl.RankCounts(lengths, q)
			if together(lengths) > 20 {
				others++
				fails(t, fmt.Sprint("RankCounts ", lengths, q), got, ok)
				continue
			}
			counted++
			if want := rankCountsTold(lengths, q); !ok || !sameList(got, want) {
				t.Errorf("RankCounts %v %d: %v %v instead of %v", lengths, q, got, ok, want)
			}
		}
		for _, q := range wrongModuli() {
			fails(t, fmt.Sprint("RankCounts ", lengths, q), both(impl.RankCounts(lengths, q))...)
		}
	}
	if counted == 0 || others == 0 {
		t.Errorf("RankCounts: %d succeed, %d fail", counted, others)
	}
	known := []struct {
		lengths []int
		q       int
		counts  []int
	}{
		{[]int{1, 2}, 2, []int{1, 5, 2}}, {[]int{1, 2}, 3, []int{1, 14, 12}}, {[]int{2, 2}, 2, []int{1, 9, 6}}, {[]int{2, 2}, 3, []int{1, 32, 48}},
		{[]int{0}, 2, []int{1, 0}}, {[]int{1}, 2, []int{1, 1}}, {[]int{1}, 3, []int{1, 2}}, {[]int{3, 3, 3}, 2, []int{1, 49, 294, 168}},
		{[]int{0, 0, 0, 0, 0, 0}, 3, []int{1, 0, 0, 0, 0, 0, 0}}, {[]int{0, 0, 0, 0, 0, 6}, 3, []int{1, 728, 0, 0, 0, 0, 0}},
		{[]int{4, 4, 4, 4, 4}, 2, []int{1, 465, 32550, 390600, 624960, 0}}, {[]int{0, 0, 5, 5, 5}, 2, []int{1, 217, 6510, 26040, 0, 0}},
		// 20 cells in different ways, and one cell more.
		{[]int{0, 0, 5, 5, 5, 5}, 3, []int{1, 9680, 7550400, 543628800, 2935595520, 0, 0}}, {[]int{1, 2, 3, 4, 5, 5}, 2, rankCountsTold([]int{1, 2, 3, 4, 5, 5}, 2)},
		{[]int{4, 4, 4, 4, 5}, 2, nil}, {[]int{1, 2, 3, 4, 5, 6}, 2, nil}, {[]int{0, 0, 3, 6, 6, 6}, 3, nil}, {[]int{5, 5, 5, 5, 5}, 2, nil}, {[]int{6, 6, 6, 6, 6, 6}, 3, nil},
	}
	for _, k := range known {
		got, ok := impl.RankCounts(k.lengths, k.q)
		if k.counts == nil {
			fails(t, fmt.Sprint("RankCounts ", k.lengths, k.q), got, ok)
		} else if !ok || !sameList(got, k.counts) {
			t.Errorf("RankCounts %v %d: %v %v instead of %v", k.lengths, k.q, got, ok, k.counts)
		}
	}
}

// countRanks lists all matrices and finds each rank by sums of multiples.
func countRanks(lengths []int, q int) []int {
	counts := make([]int, len(lengths)+1)
	for _, list := range allLists(together(lengths), 0, q-1) {
		counts[rankFound(onBoard(lengths, list), q)]++
	}
	return counts
}

func TestWeightRankCountsPlain(t *testing.T) {
	for q := 2; q <= 3; q++ {
		for _, lengths := range allLengthLists() {
			got, ok := impl.RankCountsPlain(lengths, q)
			if raised(q, together(lengths)) > 6561 {
				fails(t, fmt.Sprint("RankCountsPlain ", lengths, q), got, ok)
				continue
			}
			if want := rankCountsTold(lengths, q); !ok || !sameList(got, want) {
				t.Errorf("RankCountsPlain %v %d: %v %v instead of %v", lengths, q, got, ok, want)
			}
			if together(lengths) > 5 && (len(lengths) > 3 || together(lengths) > 10-q) {
				continue
			}
			if want := countRanks(lengths, q); !sameList(got, want) {
				t.Errorf("RankCountsPlain %v %d: %v instead of %v", lengths, q, got, want)
			}
		}
	}
	for _, lengths := range [][]int{{0}, {1}, {1, 2}, {6, 6, 6, 6, 6, 6}} {
		for _, q := range wrongModuli() {
			fails(t, fmt.Sprint("RankCountsPlain ", lengths, q), both(impl.RankCountsPlain(lengths, q))...)
		}
	}
	known := []struct {
		lengths []int
		q       int
		counts  []int
	}{
		{[]int{1, 2}, 2, []int{1, 5, 2}}, {[]int{0}, 3, []int{1, 0}}, {[]int{1}, 3, []int{1, 2}}, {[]int{2, 2}, 3, []int{1, 32, 48}},
		{[]int{0, 0, 4, 4}, 3, []int{1, 320, 6240, 0, 0}}, {[]int{2, 3, 3}, 3, rankCountsTold([]int{2, 3, 3}, 3)},
		{[]int{0, 0, 0, 0, 6, 6}, 2, []int{1, 189, 3906, 0, 0, 0, 0}}, {[]int{3, 3, 3}, 2, []int{1, 49, 294, 168}},
		{[]int{3, 3, 3}, 3, nil}, {[]int{0, 1, 4, 4}, 3, nil}, {[]int{0, 0, 0, 1, 6, 6}, 2, nil}, {[]int{3, 3, 3, 4}, 2, nil}, {[]int{4, 4, 4, 4, 4}, 2, nil},
		{[]int{6, 6, 6, 6, 6, 6}, 2, nil}, {[]int{6, 6, 6, 6, 6, 6}, 3, nil},
	}
	for _, k := range known {
		got, ok := impl.RankCountsPlain(k.lengths, k.q)
		if k.counts == nil {
			fails(t, fmt.Sprint("RankCountsPlain ", k.lengths, k.q), got, ok)
		} else if !ok || !sameList(got, k.counts) {
			t.Errorf("RankCountsPlain %v %d: %v %v instead of %v", k.lengths, k.q, got, ok, k.counts)
		}
	}
}

func TestWeightRanksAndLeads(t *testing.T) {
	for q := 2; q <= 3; q++ {
		for _, rows := range append(smallRows(q), largeRows(q)...) {
			if got, ok := impl.RankModulo(rows, q); !ok || got != rankFound(rows, q) {
				t.Errorf("RankModulo %v %d: %d %v instead of %d", rows, q, got, ok, rankFound(rows, q))
			}
			if got, ok := impl.LeadsOf(rows, q); !ok || !sameList(got, leadsFound(rows, q)) {
				t.Errorf("LeadsOf %v %d: %v %v instead of %v", rows, q, got, ok, leadsFound(rows, q))
			}
		}
		for _, rows := range wrongRows(q) {
			fails(t, fmt.Sprint("RankModulo ", len(rows), q), both(impl.RankModulo(rows, q))...)
			fails(t, fmt.Sprint("LeadsOf ", len(rows), q), both(impl.LeadsOf(rows, q))...)
		}
	}
	// The number 2 is right for 3, but not for 2.
	fails(t, "RankModulo 2, 2", both(impl.RankModulo([][]int{{1, 2}}, 2))...)
	fails(t, "LeadsOf 2, 2", both(impl.LeadsOf([][]int{{1, 2}}, 2))...)
	for _, q := range wrongModuli() {
		for _, rows := range [][][]int{{{0}}, {{1}}, {{1, 0}, {0, 1}}, {{0, 0, 0, 0, 0, 0}}, nil, {{}}} {
			fails(t, fmt.Sprint("RankModulo ", rows, q), both(impl.RankModulo(rows, q))...)
			fails(t, fmt.Sprint("LeadsOf ", rows, q), both(impl.LeadsOf(rows, q))...)
		}
	}
}

func TestWeightRanksAndLeadsKnown(t *testing.T) {
	known := []struct {
		rows  [][]int
		q     int
		leads []int
		rank  int
	}{
		{[][]int{{1, 2}, {2, 1}}, 3, []int{0, -1}, 1}, {[][]int{{1, 2}, {2, 2}}, 3, []int{0, 1}, 2}, {[][]int{{2, 1}, {1, 2}}, 3, []int{0, -1}, 1},
		{[][]int{{0}}, 2, []int{-1}, 0}, {[][]int{{1}}, 2, []int{0}, 1}, {[][]int{{2}}, 3, []int{0}, 1}, {[][]int{{0}}, 3, []int{-1}, 0},
		{[][]int{{0, 1}, {1, 0}}, 2, []int{1, 0}, 2}, {[][]int{{0, 1}, {1, 1}}, 2, []int{1, 0}, 2}, {[][]int{{1, 1}, {1, 0}}, 2, []int{0, 1}, 2},
		{[][]int{{0, 0}, {0, 1}, {0, 1}, {1, 1}}, 2, []int{-1, 1, -1, 0}, 2},
		{[][]int{{1}, {2}, {0}, {1}, {2}, {1}}, 3, []int{0, -1, -1, -1, -1, -1}, 1}, {[][]int{{0}, {0}, {0}, {1}, {1}, {0}}, 2, []int{-1, -1, -1, 0, -1, -1}, 1},
		{[][]int{{0, 0, 0, 0, 0, 2}}, 3, []int{5}, 1}, {[][]int{{0, 0, 0, 0, 0, 0}}, 3, []int{-1}, 0}, {[][]int{{0, 0, 1, 0, 1, 0}}, 2, []int{2}, 1},
		// The third row is the sum of the first ones modulo 2, but not modulo 3.
		{[][]int{{1, 1, 0}, {0, 1, 1}, {1, 0, 1}}, 2, []int{0, 1, -1}, 2}, {[][]int{{1, 1, 0}, {0, 1, 1}, {1, 0, 1}}, 3, []int{0, 1, 2}, 3},
		// A later row has the lead of one before again after it has been made free of another one.
		{[][]int{{0, 1, 1}, {1, 1, 0}, {1, 0, 0}}, 2, []int{1, 0, 2}, 3}, {[][]int{{1, 2, 0, 1}, {1, 2, 1, 1}, {2, 1, 2, 1}}, 3, []int{0, 2, 3}, 3},
		{[][]int{{0, 0, 0, 0, 0, 1}, {0, 0, 0, 0, 1, 0}, {0, 0, 0, 1, 0, 0}, {0, 0, 1, 0, 0, 0}, {0, 1, 0, 0, 0, 0}, {1, 0, 0, 0, 0, 0}}, 2, []int{5, 4, 3, 2, 1, 0}, 6},
		{[][]int{{2, 2, 2, 2, 2, 2}, {1, 1, 1, 1, 1, 1}, {2, 2, 2, 2, 2, 2}, {0, 0, 0, 0, 0, 0}, {1, 1, 1, 1, 1, 1}, {1, 1, 1, 1, 1, 2}}, 3, []int{0, -1, -1, -1, -1, 5}, 2},
	}
	for _, k := range known {
		if got, ok := impl.RankModulo(k.rows, k.q); !ok || got != k.rank {
			t.Errorf("RankModulo %v %d: %d %v instead of %d", k.rows, k.q, got, ok, k.rank)
		}
		if got, ok := impl.LeadsOf(k.rows, k.q); !ok || !sameList(got, k.leads) {
			t.Errorf("LeadsOf %v %d: %v %v instead of %v", k.rows, k.q, got, ok, k.leads)
		}
	}
}

func TestWeightMatrixWith(t *testing.T) {
	for q := 2; q <= 3; q++ {
		for i, lengths := range listedLengths(q) {
			count := raised(q, together(lengths))
			digits := make([]int, together(lengths))
			for number := 0; number < count; number++ {
				if count < 1000 || i%10 == 0 || number < 10 || number == count-1 {
					if got, ok := impl.MatrixWith(lengths, q, number); !ok || !sameLists(got, onBoard(lengths, digits)) {
						t.Errorf("MatrixWith %v %d %d: %v %v instead of %v", lengths, q, number, got, ok, onBoard(lengths, digits))
					}
				}
				nextDigits(digits, q)
			}
			for _, number := range append(wrongCounts(0, count-1), -count, 2*count) {
				if number < 0 || number >= count {
					fails(t, fmt.Sprint("MatrixWith ", lengths, q, number), both(impl.MatrixWith(lengths, q, number))...)
				}
			}
		}
		for _, lengths := range allLengthLists() {
			for _, number := range []int{0, 1, 6560, 6561, -1} {
				if raised(q, together(lengths)) > 6561 {
					fails(t, fmt.Sprint("MatrixWith ", lengths, q, number), both(impl.MatrixWith(lengths, q, number))...)
				}
			}
		}
	}
	for _, q := range wrongModuli() {
		for _, lengths := range [][]int{{0}, {1}, {0, 0, 0, 0, 0, 0}, {6, 6, 6, 6, 6, 6}} {
			for number := -1; number <= 1; number++ {
				fails(t, fmt.Sprint("MatrixWith ", lengths, q, number), both(impl.MatrixWith(lengths, q, number))...)
			}
		}
	}
}

func TestWeightMatrixWithKnown(t *testing.T) {
	known := []struct {
		lengths   []int
		q, number int
		rows      [][]int
	}{
		{[]int{0}, 2, 0, [][]int{{0}}}, {[]int{0}, 2, 1, nil}, {[]int{1}, 2, 1, [][]int{{1}}}, {[]int{1}, 2, 2, nil}, {[]int{1}, 3, 2, [][]int{{2}}}, {[]int{1}, 3, 3, nil},
		{[]int{1, 2}, 2, 1, [][]int{{1, 0}, {0, 0}}}, {[]int{1, 2}, 2, 2, [][]int{{0, 0}, {1, 0}}}, {[]int{1, 2}, 2, 4, [][]int{{0, 0}, {0, 1}}}, {[]int{1, 2}, 2, 6, [][]int{{0, 0}, {1, 1}}},
		{[]int{1, 2}, 2, 7, [][]int{{1, 0}, {1, 1}}}, {[]int{1, 2}, 2, 8, nil}, {[]int{1, 2}, 3, 5, [][]int{{2, 0}, {1, 0}}}, {[]int{1, 2}, 3, 26, [][]int{{2, 0}, {2, 2}}},
		{[]int{0, 0, 0, 0, 0, 0}, 3, 0, rowsOf(make([]int, 36), 6)}, {[]int{0, 0, 0, 0, 0, 0}, 3, 1, nil},
		{[]int{0, 0, 4, 4}, 3, 6560, [][]int{{0, 0, 0, 0}, {0, 0, 0, 0}, {2, 2, 2, 2}, {2, 2, 2, 2}}}, {[]int{0, 0, 4, 4}, 3, 6561, nil},
		{[]int{0, 0, 4, 4}, 3, 2187, [][]int{{0, 0, 0, 0}, {0, 0, 0, 0}, {0, 0, 0, 0}, {0, 0, 0, 1}}},
		{[]int{0, 1, 4, 4}, 3, 0, nil}, {[]int{0, 0, 0, 0, 6, 6}, 2, 4095, onBoard([]int{0, 0, 0, 0, 6, 6}, []int{1, 1, 1, 1, 1, 1, 1, 1, 1, 1, 1, 1})},
		{[]int{0, 0, 0, 0, 6, 6}, 2, 4096, nil}, {[]int{0, 0, 0, 1, 6, 6}, 2, 0, nil}, {[]int{6, 6, 6, 6, 6, 6}, 3, 0, nil},
	}
	for _, k := range known {
		got, ok := impl.MatrixWith(k.lengths, k.q, k.number)
		if k.rows == nil {
			fails(t, fmt.Sprint("MatrixWith ", k.lengths, k.q, k.number), got, ok)
		} else if !ok || !sameLists(got, k.rows) {
			t.Errorf("MatrixWith %v %d %d: %v %v instead of %v", k.lengths, k.q, k.number, got, ok, k.rows)
		}
	}
}

// expectFit checks what FitsBoard, which has to succeed, reports.
func expectFit(t *testing.T, lengths []int, rows [][]int, q int, want bool) {
	t.Helper()
	if got, ok := impl.FitsBoard(lengths, rows, q); !ok || got != want {
		t.Errorf("FitsBoard %v, %d rows, %v, %d: %v %v instead of %v", lengths, len(rows), rows[:min(len(rows), 7)], q, got, ok, want)
	}
}

func TestWeightFitsBoard(t *testing.T) {
	for q := 2; q <= 3; q++ {
		for _, lengths := range allLengthLists() {
			n := len(lengths)
			full := make([]int, together(lengths))
			for i := range full {
				full[i] = q - 1 - i%2
			}
			rows := onBoard(lengths, full)
			expectFit(t, lengths, rows, q, true)
			expectFit(t, lengths, onBoard(lengths, make([]int, len(full))), q, true)
			// One number that is changed decides.
			for r := range rows {
				for c := range rows[r] {
					was := rows[r][c]
					for x := -1; x <= 3; x++ {
						rows[r][c] = x
						expectFit(t, lengths, rows, q, x == 0 || x > 0 && x < q && c < lengths[r])
					}
					rows[r][c] = was
				}
			}
			expectFit(t, lengths, rows[:n-1], q, false)
			expectFit(t, lengths, append(append([][]int{}, rows...), make([]int, n)), q, false)
			for r := range rows {
				was := rows[r]
				rows[r] = append(append([]int{}, was...), 0)
				expectFit(t, lengths, rows, q, false)
				rows[r] = was[:n-1]
				expectFit(t, lengths, rows, q, false)
				rows[r] = was
			}
			if n > 1 {
				expectFit(t, lengths, rowsOf(make([]int, n*(n-1)), n-1), q, false)
			}
			expectFit(t, lengths, rowsOf(make([]int, n*(n+1)), n+1), q, false)
		}
		for _, rows := range append(wrongRows(q), rowsOf(make([]int, 49), 7)) {
			for _, lengths := range [][]int{{0}, {1}, {2, 2}, {3, 3, 3}, {6, 6, 6, 6, 6, 6}} {
				expectFit(t, lengths, rows, q, false)
			}
		}
	}
	for _, q := range wrongModuli() {
		for _, rows := range [][][]int{{{0}}, {{1}}, nil, {{2}}, {{0, 0}}} {
			fails(t, fmt.Sprint("FitsBoard ", rows, q), both(impl.FitsBoard([]int{1}, rows, q))...)
		}
	}
}

func TestWeightInvertibleCount(t *testing.T) {
	if impl.MaxOrder != 5 {
		t.Error("MaxOrder is", impl.MaxOrder)
	}
	known := map[int][]int{2: {0, 1, 6, 168, 20160, 9999360}, 3: {0, 2, 48, 11232, 24261120, 475566474240}}
	for q := 2; q <= 3; q++ {
		for n := 1; n <= 5; n++ {
			want := rankCountsTold(fullLengths(n), q)[n]
			if want != known[q][n] {
				t.Fatalf("%d matrices of %d rows have the rank %d", want, n, n)
			}
			if got, ok := impl.InvertibleCount(n, q); !ok || got != want {
				t.Errorf("InvertibleCount %d %d: %d %v instead of %d", n, q, got, ok, want)
			}
		}
		for _, n := range wrongCounts(1, 5) {
			fails(t, fmt.Sprint("InvertibleCount ", n, q), both(impl.InvertibleCount(n, q))...)
		}
	}
	for _, q := range wrongModuli() {
		for n := 0; n <= 6; n++ {
			fails(t, fmt.Sprint("InvertibleCount ", n, q), both(impl.InvertibleCount(n, q))...)
		}
	}
}
