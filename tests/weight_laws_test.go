package tests

import (
	"fmt"
	"testing"

	"loop.example/g01125/impl"
)

// Promise 5: weights of placements count matrices of each rank.

// Weights count the placements with each number of free cells, and are the rook numbers together.
func TestWeightLawsOfPlacements(t *testing.T) {
	for _, lengths := range allLengthLists() {
		all := must(impl.AllWeights(lengths))
		numbers := must(impl.NumbersOfLengths(lengths))
		b := must(impl.BoardOfLengths(lengths))
		if len(all) != len(numbers) {
			t.Errorf("%v: %d lists of weights", lengths, len(all))
		}
		for k, weights := range all {
			if !sameList(must(impl.WeightsOf(lengths, k)), weights) {
				t.Errorf("%v: WeightsOf %d is %v, and AllWeights has %v", lengths, k, must(impl.WeightsOf(lengths, k)), weights)
			}
			if together(weights) != numbers[k] {
				t.Errorf("%v: the weights %v of %d rooks are not %d together", lengths, weights, k, numbers[k])
			}
			if !sameList(cut(weights), weights) {
				t.Errorf("%v: the weights %v of %d rooks have zeros at the end", lengths, weights, k)
			}
			for q := 2; q <= 3; q++ {
				if must(impl.WeightAt(lengths, k, q)) != valueAt(weights, q) {
					t.Errorf("%v: WeightAt %d and %d is %d", lengths, k, q, must(impl.WeightAt(lengths, k, q)))
				}
			}
			if numbers[k] > impl.MaxPlacements || len(lengths) == 6 && numbers[k] > 20 {
				continue
			}
			counts := make([]int, together(lengths)+1)
			for _, list := range must(impl.PlacementsOf(b, k)) {
				counts[must(impl.FreeCells(lengths, list))]++
			}
			if !sameList(cut(counts), weights) {
				t.Errorf("%v: the weights of %d rooks are %v, but the free cells %v", lengths, k, weights, counts)
			}
		}
		if !sameList(all[0], append(make([]int, together(lengths)), 1)) {
			t.Errorf("%v: the weights without rooks are %v", lengths, all[0])
		}
	}
}

// The weights behind the last row come from those before it. Spare lengths make lists of fewer numbers comparable:
// a length of 0 in front changes no weights.
func TestWeightLawsOfRows(t *testing.T) {
	for _, lengths := range allLengthLists() {
		n := len(lengths)
		if n == 6 {
			continue
		}
		wider := must(impl.AllWeights(append([]int{0}, lengths...)))
		if !sameLists(wider[:n+1], must(impl.AllWeights(lengths))) || len(wider[n+1]) > 0 {
			t.Errorf("a row without cells changes the weights of %v", lengths)
		}
	}
	for n := 2; n <= 6; n++ {
		for _, lengths := range lengthLists(n) {
			last := lengths[n-1]
			before := must(impl.AllWeights(append([]int{0}, lengths[:n-1]...)))
			for k, weights := range must(impl.AllWeights(lengths)) {
				sums := make([]int, together(lengths)+1)
				for e, number := range before[k] {
					sums[e+last-k] += number
				}
				for up := 0; k > 0 && up <= last-k; up++ {
					for e, number := range before[k-1] {
						sums[e+up] += number
					}
				}
				if !sameList(cut(sums), weights) {
					t.Errorf("%v: the weights of %d rooks are %v, and %v by the last row", lengths, k, weights, sums)
				}
			}
		}
	}
}

// Lengths of one class have the same products, and so the same sums; others have not, at all places.
func TestWeightLawsOfProducts(t *testing.T) {
	for n := 1; n <= 4; n++ {
		for q := 2; q <= 3; q++ {
			factorsWith := map[string]string{}
			for _, lengths := range lengthLists(n) {
				values := ""
				for x := n; x <= 8; x++ {
					sum, product := must(impl.WeightedSumAt(lengths, q, x)), must(impl.WeightedProductAt(lengths, q, x))
					if sum != product {
						t.Errorf("%v, %d, %d: the sum is %d, and the product %d", lengths, q, x, sum, product)
					}
					values += fmt.Sprint(product, " ")
					told := 1
					for _, factor := range must(impl.FactorsOf(lengths)) {
						told *= must(impl.BracketOf(x+factor, q))
					}
					if told != product {
						t.Errorf("%v, %d, %d: the product is %d, and not %d", lengths, q, x, product, told)
					}
				}
				factors := fmt.Sprint(must(impl.FactorsOf(lengths)))
				if known, is := factorsWith[values]; is && known != factors {
					t.Errorf("the factors %s and %s have the same values", known, factors)
				}
				factorsWith[values] = factors
			}
			if len(factorsWith) != len(classLists(n)) {
				t.Errorf("%d numbers have %d lists of values", n, len(factorsWith))
			}
		}
	}
}

func TestWeightLawsOfBrackets(t *testing.T) {
	for q := 2; q <= 3; q++ {
		for m := 1; m <= 20; m++ {
			if must(impl.BracketOf(m, q)) != 1+q*must(impl.BracketOf(m-1, q)) {
				t.Errorf("the bracket of %d and %d is %d", m, q, must(impl.BracketOf(m, q)))
			}
		}
		// Full placements of a full board have all orders of its columns as weights: a product of brackets.
		for n := 1; n <= 6; n++ {
			product := 1
			for m := 1; m <= n; m++ {
				product *= must(impl.BracketOf(m, q))
			}
			if must(impl.WeightAt(fullLengths(n), n, q)) != product {
				t.Errorf("the weights of %d rooks on a full board are %d", n, must(impl.WeightAt(fullLengths(n), n, q)))
			}
		}
	}
}

func TestWeightLawsOfRankCounts(t *testing.T) {
	for q := 2; q <= 3; q++ {
		bothTold := 0
		for _, lengths := range allLengthLists() {
			counts, ok := impl.RankCounts(lengths, q)
			plain, okPlain := impl.RankCountsPlain(lengths, q)
			if ok != (together(lengths) <= 20) || okPlain != (raised(q, together(lengths)) <= 6561) {
				t.Errorf("%v, %d: RankCounts %v, RankCountsPlain %v", lengths, q, ok, okPlain)
			}
			if ok && okPlain {
				bothTold++
				if !sameList(counts, plain) {
					t.Errorf("%v, %d: RankCounts are %v, and RankCountsPlain %v", lengths, q, counts, plain)
				}
			}
			if ok && together(counts) != raised(q, together(lengths)) {
				t.Errorf("%v, %d: the rank counts %v are not all matrices", lengths, q, counts)
			}
			if okPlain && together(plain) != raised(q, together(lengths)) {
				t.Errorf("%v, %d: the plain rank counts %v are not all matrices", lengths, q, plain)
			}
			if ok {
				lawsOfRanks(t, lengths, q, counts)
			}
		}
		if bothTold != len(listedLengths(q)) {
			t.Errorf("%d lengths have both rank counts", bothTold)
		}
	}
}

// lawsOfRanks checks that there are matrices of a rank exactly if there are placements with so many rooks.
func lawsOfRanks(t *testing.T, lengths []int, q int, counts []int) {
	t.Helper()
	for k, number := range must(impl.NumbersOfLengths(lengths)) {
		if (number > 0) != (counts[k] > 0) {
			t.Errorf("%v, %d: %d placements with %d rooks, and the rank counts %v", lengths, q, number, k, counts)
		}
	}
	if side := must(impl.RankCounts(must(impl.SideOfLengths(lengths)), q)); !sameList(side, counts) {
		t.Errorf("%v, %d: the rank counts are %v, and %v from the other side", lengths, q, counts, side)
	}
}

// Each matrix fits its board, no two are the same, and their ranks are counted by RankCountsPlain.
func TestWeightLawsOfMatrices(t *testing.T) {
	for q := 2; q <= 3; q++ {
		for i, lengths := range listedLengths(q) {
			count := raised(q, together(lengths))
			if count > 300 && i%10 > 0 && len(lengths) > 3 {
				continue
			}
			counts := make([]int, len(lengths)+1)
			seen := map[string]bool{}
			for number := 0; number < count; number++ {
				rows := must(impl.MatrixWith(lengths, q, number))
				if !must(impl.FitsBoard(lengths, rows, q)) {
					t.Errorf("%v, %d: the matrix %d, %v, does not fit", lengths, q, number, rows)
				}
				if q == 2 && !must(impl.FitsBoard(lengths, rows, 3)) {
					t.Errorf("%v: the matrix %d, %v, does not fit for 3", lengths, number, rows)
				}
				seen[fmt.Sprint(rows)] = true
				counts[lawsOfLeads(t, rows, q)]++
			}
			if len(seen) != count || !sameList(counts, must(impl.RankCountsPlain(lengths, q))) {
				t.Errorf("%v, %d: %d different matrices with the ranks %v", lengths, q, len(seen), counts)
			}
		}
	}
}

// lawsOfLeads checks that as many leads of rows are not -1 as their rank is, and that no two are the same. It returns the rank.
func lawsOfLeads(t *testing.T, rows [][]int, q int) int {
	t.Helper()
	rank, leads := must(impl.RankModulo(rows, q)), must(impl.LeadsOf(rows, q))
	found := map[int]bool{}
	n := 0
	for _, lead := range leads {
		if lead < -1 || lead >= len(rows[0]) {
			t.Errorf("%v, %d: the lead %d", rows, q, lead)
		}
		if lead >= 0 {
			found[lead] = true
			n++
		}
	}
	if len(leads) != len(rows) || n != rank || len(found) != rank {
		t.Errorf("%v, %d: the rank %d and the leads %v", rows, q, rank, leads)
	}
	return rank
}

// A rank is the same for the columns, for rows in another order and for multiples of rows; the first rows have the first leads.
func TestWeightLawsOfRankAndLeads(t *testing.T) {
	for q := 2; q <= 3; q++ {
		for i, rows := range append(smallRows(q), largeRows(q)...) {
			rank := lawsOfLeads(t, rows, q)
			turned := rowsOf(make([]int, len(rows)*len(rows[0])), len(rows))
			var other, doubled [][]int
			for r := range rows {
				for c := range rows[r] {
					turned[c][r] = rows[r][c]
				}
				other = append(other, rows[(r+i)%len(rows)])
			}
			for _, row := range rows {
				double := make([]int, len(row))
				for c := range row {
					double[c] = (q - 1) * row[c] % q
				}
				doubled = append(doubled, double)
			}
			if must(impl.RankModulo(turned, q)) != rank || must(impl.RankModulo(other, q)) != rank || must(impl.RankModulo(doubled, q)) != rank {
				t.Errorf("%v, %d: the rank is %d, and another one for columns, another order or multiples", rows, q, rank)
			}
			leads := must(impl.LeadsOf(rows, q))
			if !sameList(must(impl.LeadsOf(doubled, q)), leads) {
				t.Errorf("%v, %d: multiples of rows have other leads than %v", rows, q, leads)
			}
			for n := 1; n < len(rows); n++ {
				if !sameList(must(impl.LeadsOf(rows[:n], q)), leads[:n]) {
					t.Errorf("%v, %d: the first %d rows have other leads than %v", rows, q, n, leads)
				}
			}
			twice := append(append([][]int{}, rows...), rows...)
			if len(twice) <= 6 {
				again := must(impl.LeadsOf(twice, q))
				if must(impl.RankModulo(twice, q)) != rank || !sameList(again[:len(rows)], leads) || together(again[len(rows):]) != -len(rows) {
					t.Errorf("%v, %d: the leads %v, and %v twice", rows, q, leads, again)
				}
			}
		}
	}
}

func TestWeightLawsOfInvertible(t *testing.T) {
	for q := 2; q <= 3; q++ {
		both := 0
		for n := 1; n <= impl.MaxOrder; n++ {
			count := must(impl.InvertibleCount(n, q))
			if counts, ok := impl.RankCounts(fullLengths(n), q); ok {
				both++
				if counts[n] != count {
					t.Errorf("%d matrices of %d rows have the rank %d, and the rank counts are %v", count, n, n, counts)
				}
			}
			if plain, ok := impl.RankCountsPlain(fullLengths(n), q); ok && plain[n] != count {
				t.Errorf("%d matrices of %d rows have the rank %d, and the plain rank counts are %v", count, n, n, plain)
			}
			// Matrices of the rank n are full placements, with any numbers other than 0 and any multiples behind.
			told := must(impl.WeightAt(fullLengths(n), n, q)) * raised(q-1, n) * raised(q, n*(n-1)/2)
			if told != count {
				t.Errorf("%d matrices of %d rows have the rank %d, and not %d", count, n, n, told)
			}
		}
		if both != 4 {
			t.Errorf("%d full boards have rank counts", both)
		}
	}
}
