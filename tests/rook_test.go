package tests

import (
	"fmt"
	"math/big"
	"testing"

	"loop.example/g01125/impl"
)

// Promise 2, function by function: each result is held against the tests' own lists of placements.

func TestRookIsPlacement(t *testing.T) {
	for _, b := range sampleBoards() {
		p := pictureOf(b)
		least, most := -1, b.Columns-1
		if b.Rows <= 3 {
			least, most = -2, b.Columns
		}
		for _, list := range allLists(b.Rows, least, most) {
			if is, ok := impl.IsPlacement(b, list); !ok || is != isPlacing(p, list) {
				t.Errorf("IsPlacement %v %v: %v %v", b, list, is, ok)
			}
		}
		// The numbers of the list may be any: what is no placement is none, and the call succeeds.
		for _, list := range wrongPlacings(b) {
			if is, ok := impl.IsPlacement(b, list); !ok || is {
				t.Errorf("IsPlacement %v %v: %v %v", b, list, is, ok)
			}
		}
	}
}

func TestRookCountRooks(t *testing.T) {
	for length := 0; length <= 3; length++ {
		for _, list := range allLists(length, -2, 6) {
			n, ok := impl.CountRooks(list)
			wrong := false
			for _, c := range list {
				wrong = wrong || c == -2 || c == 6
			}
			if wrong {
				fails(t, fmt.Sprint("CountRooks ", list), n, ok)
			} else if !ok || n != rooksIn(list) {
				t.Errorf("CountRooks %v: %d %v", list, n, ok)
			}
		}
	}
	// It asks for no board: columns may come twice, and six numbers are the most.
	right := map[int][]int{
		0: {-1, -1, -1, -1, -1, -1},
		6: {5, 5, 5, 0, 0, 0},
		1: {-1, -1, -1, -1, -1, 5},
		5: {-1, 0, 1, 2, 3, 4},
	}
	for want, list := range right {
		if n, ok := impl.CountRooks(list); !ok || n != want {
			t.Errorf("CountRooks %v: %d %v instead of %d", list, n, ok, want)
		}
	}
	if n, ok := impl.CountRooks(nil); !ok || n != 0 {
		t.Errorf("CountRooks of no numbers: %d %v", n, ok)
	}
	wrong := [][]int{
		{-1, -1, -1, -1, -1, -1, -1}, {0, 1, 2, 3, 4, 5, -1}, {6}, {-2}, {0, 6}, {0, 1, 2, 3, 4, 6}, {0, 1, 2, 3, 4, -2},
		{1 << 62}, {-1 << 63}, {1<<63 - 1}, make([]int, 7), make([]int, 100000),
	}
	for _, list := range wrong {
		fails(t, "CountRooks, a wrong list", both(impl.CountRooks(list))...)
	}
}

func TestRookNumbersAndMost(t *testing.T) {
	for _, b := range sampleBoards() {
		want := numbersOf(b)
		if got, ok := impl.RookNumbers(b); !ok || !sameList(got, want) {
			t.Errorf("RookNumbers %v: %v %v instead of %v", b, got, ok, want)
		}
		if n, ok := impl.MostRooks(b); !ok || n != len(cut(want))-1 {
			t.Errorf("MostRooks %v: %d %v, with the rook numbers %v", b, n, ok, want)
		}
	}
	known := map[string][]int{
		"110/011/101": {1, 6, 9, 2},
		"1":           {1, 1},
		"0":           {1, 0},
		"111111":      {1, 6},
		"0/1/1/0/1/1": {1, 4},
		"000000":      {1, 0},
		"111111/111111/111111/111111/111111/111111": {1, 36, 450, 2400, 5400, 4320, 720},
		"000000/000000/000000/000000/000000/000000": {1, 0, 0, 0, 0, 0, 0},
		"111111/111111/111111":                      {1, 18, 90, 120},
	}
	for text, want := range known {
		if got, ok := impl.RookNumbers(of(text)); !ok || !sameList(got, want) {
			t.Errorf("RookNumbers %s: %v %v instead of %v", text, got, ok, want)
		}
		if n, ok := impl.MostRooks(of(text)); !ok || n != len(cut(want))-1 {
			t.Errorf("MostRooks %s: %d %v", text, n, ok)
		}
	}
}

func TestRookPlacementsOf(t *testing.T) {
	for _, b := range sampleBoards() {
		for k, want := range placings(b) {
			got, ok := impl.PlacementsOf(b, k)
			what := fmt.Sprint("PlacementsOf ", b, k)
			if len(want) > 500 {
				fails(t, what, got, ok)
			} else if !ok || !sameLists(got, want) {
				t.Errorf("%s: %v %v instead of %v", what, got, ok, want)
			}
		}
		for _, k := range wrongRookCounts() {
			fails(t, fmt.Sprint("PlacementsOf ", b, k), both(impl.PlacementsOf(b, k))...)
		}
	}
	got, ok := impl.PlacementsOf(of("110/011/101"), 3)
	if !ok || !sameLists(got, [][]int{{0, 1, 2}, {1, 2, 0}}) {
		t.Error("PlacementsOf the example:", got, ok)
	}
}

// The limit of MaxPlacements may be met exactly, and not by one more.
func TestRookPlacementsOfLimit(t *testing.T) {
	if impl.MaxPlacements != 500 {
		t.Error("MaxPlacements is", impl.MaxPlacements)
	}
	limits := []struct {
		text  string
		k     int
		count int
	}{
		{"011001/111011/111011/001011/011100/110001", 3, 500},
		{"000011/101111/101101/010010/101101/011001", 4, 500},
		{"110110/001111/111111/000110/010111/101111", 5, 500},
		{"111011/001011/101011/011100/111011/100001", 3, 501},
		{"101011/000111/010011/111001/000111/011010", 4, 501},
		{"011011/111101/100111/110101/000111/010111", 5, 501},
	}
	for _, l := range limits {
		want := placings(of(l.text))[l.k]
		if len(want) != l.count {
			t.Fatalf("%s has %d placements with %d rooks", l.text, len(want), l.k)
		}
		got, ok := impl.PlacementsOf(of(l.text), l.k)
		if l.count > 500 {
			fails(t, "PlacementsOf "+l.text, got, ok)
		} else if !ok || !sameLists(got, want) {
			t.Errorf("PlacementsOf %s and %d: %d of them, %v", l.text, l.k, len(got), ok)
		}
		// One placement is asked for where a list of all would be too long, too.
		last, ok := impl.PlacementWith(of(l.text), l.k, l.count-1)
		if !ok || !sameList(last, want[l.count-1]) {
			t.Errorf("PlacementWith %s and %d: %v %v", l.text, l.k, last, ok)
		}
	}
}

// someRanks holds all ranks below a count, or for great counts the first and last ones and some between.
func someRanks(count int) []int {
	var ranks []int
	for rank := 0; rank < count; rank++ {
		if count <= 200 || rank < 3 || rank >= count-3 || rank%97 == 0 {
			ranks = append(ranks, rank)
		}
	}
	return ranks
}

func TestRookRanks(t *testing.T) {
	for _, b := range sampleBoards() {
		for k, lists := range placings(b) {
			for _, rank := range someRanks(len(lists)) {
				got, ok := impl.PlacementWith(b, k, rank)
				if !ok || !sameList(got, lists[rank]) {
					t.Errorf("PlacementWith %v %d %d: %v %v instead of %v", b, k, rank, got, ok, lists[rank])
				}
				n, ok := impl.RankPlacement(b, lists[rank])
				if !ok || n != rank {
					t.Errorf("RankPlacement %v %v: %d %v instead of %d", b, lists[rank], n, ok, rank)
				}
			}
			for _, rank := range []int{-1, -2, len(lists), len(lists) + 1, 1 << 62, -1 << 63, 1<<63 - 1} {
				fails(t, fmt.Sprint("PlacementWith ", b, k, rank), both(impl.PlacementWith(b, k, rank))...)
			}
		}
		for _, k := range wrongRookCounts() {
			fails(t, fmt.Sprint("PlacementWith ", b, k), both(impl.PlacementWith(b, k, 0))...)
		}
		for _, list := range wrongPlacings(b) {
			fails(t, fmt.Sprint("RankPlacement ", b, list), both(impl.RankPlacement(b, list))...)
		}
	}
}

func TestRookPermanentOf(t *testing.T) {
	for _, b := range squareBoards() {
		p := pictureOf(b)
		want := 0
		for _, order := range orders(b.Rows) {
			fits := true
			for r, c := range order {
				fits = fits && p[r][c]
			}
			if fits {
				want++
			}
		}
		if n, ok := impl.PermanentOf(b); !ok || n != want {
			t.Errorf("PermanentOf %v: %d %v instead of %d", b, n, ok, want)
		}
	}
	for _, b := range otherBoards() {
		fails(t, fmt.Sprint("PermanentOf ", b), both(impl.PermanentOf(b))...)
	}
}

func TestRookPolynomialAt(t *testing.T) {
	for _, b := range sampleBoards() {
		numbers := numbersOf(b)
		for x := -20; x <= 20; x++ {
			want := 0
			for k := len(numbers) - 1; k >= 0; k-- {
				want = want*x + numbers[k]
			}
			if got, ok := impl.RookPolynomialAt(b, x); !ok || got != want {
				t.Errorf("RookPolynomialAt %v %d: %d %v instead of %d", b, x, got, ok, want)
			}
		}
		for _, x := range wrongPoints() {
			fails(t, fmt.Sprint("RookPolynomialAt ", b, x), both(impl.RookPolynomialAt(b, x))...)
		}
	}
	full := must(impl.FullBoard(6, 6))
	if n, ok := impl.RookPolynomialAt(full, 0); !ok || n != 1 {
		t.Error("RookPolynomialAt of all cells and 0:", n, ok)
	}
	if n, ok := impl.RookPolynomialAt(full, -1); !ok || n != 1-36+450-2400+5400-4320+720 {
		t.Error("RookPolynomialAt of all cells and -1:", n, ok)
	}
}

// FactorialAt of x counts the ways to put a rook into each column of the board and x full rows below it.
func TestRookFactorialAt(t *testing.T) {
	for _, b := range squareBoards() {
		n := b.Rows
		most := 20
		if n > 3 {
			most = n
		}
		for x := 0; x <= most; x++ {
			want := columnFillings(pictureOf(b), x)
			if got, ok := impl.FactorialAt(b, x); !ok || got != want {
				t.Errorf("FactorialAt %v %d: %d %v instead of %d", b, x, got, ok, want)
			}
		}
		// It is a polynomial of the degree n, so that its value at 0..n tells all others: its difference number n + 1 is 0.
		var values []int
		for x := -20; x <= 20; x++ {
			values = append(values, must(impl.FactorialAt(b, x)))
		}
		for step := 0; step <= n; step++ {
			for i := 0; i+1 < len(values); i++ {
				values[i] = values[i+1] - values[i]
			}
			values = values[:len(values)-1]
		}
		if len(cut(values)) > 0 {
			t.Errorf("FactorialAt %v is no polynomial of the degree %d: %v", b, n, values)
		}
		for _, x := range wrongPoints() {
			fails(t, fmt.Sprint("FactorialAt ", b, x), both(impl.FactorialAt(b, x))...)
		}
	}
	for _, b := range otherBoards() {
		for _, x := range []int{-20, -1, 0, 1, 20, 21} {
			fails(t, fmt.Sprint("FactorialAt ", b, x), both(impl.FactorialAt(b, x))...)
		}
	}
	known := map[string][]int{"110/011/101": {0, 2}, "1": {-20, -19}, "0": {-20, -20}, "11/11": {-2, 0}}
	for text, want := range known {
		if n, ok := impl.FactorialAt(of(text), want[0]); !ok || n != want[1] {
			t.Errorf("FactorialAt %s %d: %d %v", text, want[0], n, ok)
		}
	}
	full := must(impl.FullBoard(6, 6))
	if n, ok := impl.FactorialAt(full, 20); !ok || n != 26*25*24*23*22*21 {
		t.Error("FactorialAt of all cells and 20:", n, ok)
	}
}

// bigNumber is the number whose digits, of twelve decimal places each, are the numbers of a list, the last one first.
func bigNumber(list []int) *big.Int {
	n := new(big.Int)
	for i := len(list) - 1; i >= 0; i-- {
		n.Mul(n, big.NewInt(1000000000000))
		n.Add(n, big.NewInt(int64(list[i])))
	}
	return n
}

func TestRookMultiplyNumbers(t *testing.T) {
	lists := [][]int{{0}, {1}, {100000}, {99999, 100000}, {0, 0}, {0, 1}, {1, 6, 9, 2}, {1, 36, 450, 2400, 5400, 4320, 720}}
	for length := 1; length <= 7; length++ {
		top, mixed, last := make([]int, length), make([]int, length), make([]int, length)
		for i := range top {
			top[i] = 100000
			mixed[i] = (i*7919 + length*104729) % 100001
		}
		last[length-1] = 3
		lists = append(lists, top, mixed, last)
	}
	for _, a := range lists {
		for _, b := range lists {
			got, ok := impl.MultiplyNumbers(a, b)
			want := new(big.Int).Mul(bigNumber(a), bigNumber(b))
			// No sum is greater than 7 times 10^10, which is less than a digit.
			if !ok || len(got) != len(a)+len(b)-1 || bigNumber(got).Cmp(want) != 0 {
				t.Errorf("MultiplyNumbers %v %v: %v %v", a, b, got, ok)
			}
			for _, x := range got {
				if x < 0 || x > 70000000000 {
					t.Errorf("MultiplyNumbers %v %v: %v", a, b, got)
				}
			}
		}
	}
	got, ok := impl.MultiplyNumbers([]int{1, 2}, []int{3, 4, 5})
	if !ok || !sameList(got, []int{3, 10, 13, 10}) {
		t.Error("MultiplyNumbers 1 2 and 3 4 5:", got, ok)
	}
}

func TestRookMultiplyNumbersInvalid(t *testing.T) {
	right := [][]int{{0}, {1, 2, 3}, {100000, 100000, 100000, 100000, 100000, 100000, 100000}}
	wrong := [][]int{
		nil, {}, {-1}, {100001}, {1, -1}, {1, 100001}, {1, 2, 3, 4, 5, 6, -1}, {1, 2, 3, 4, 5, 6, 100001}, {-1 << 63}, {1<<63 - 1}, {1 << 62},
		{1, 2, 3, 4, 5, 6, 7, 8}, {1, 0, 0, 0, 0, 0, 0, 0}, {0, 0, 0, 0, 0, 0, 0, 0}, make([]int, 100000), []int{1, 2, 3}[:0],
	}
	for _, w := range wrong {
		for _, a := range right {
			fails(t, fmt.Sprint("MultiplyNumbers, second wrong, ", len(w)), both(impl.MultiplyNumbers(a, w))...)
			fails(t, fmt.Sprint("MultiplyNumbers, first wrong, ", len(w)), both(impl.MultiplyNumbers(w, a))...)
		}
		fails(t, "MultiplyNumbers, both wrong", both(impl.MultiplyNumbers(w, w))...)
	}
}

func TestRookNumbersOfComplement(t *testing.T) {
	for _, b := range squareBoards() {
		p := pictureOf(b)
		other := draw(b.Rows, b.Columns, func(r, c int) bool { return !p[r][c] })
		want := numbersOf(other.board())
		if got, ok := impl.NumbersOfComplement(b); !ok || !sameList(got, want) {
			t.Errorf("NumbersOfComplement %v: %v %v instead of %v", b, got, ok, want)
		}
	}
	for _, b := range otherBoards() {
		fails(t, fmt.Sprint("NumbersOfComplement ", b), both(impl.NumbersOfComplement(b))...)
	}
	got, ok := impl.NumbersOfComplement(of("110/011/101"))
	if !ok || !sameList(got, []int{1, 3, 3, 1}) {
		t.Error("NumbersOfComplement of the example:", got, ok)
	}
}

func TestRookAreAlike(t *testing.T) {
	same, different := 0, 0
	list := pairs()
	for _, a := range boardsOfSize(2, 3) {
		for _, b := range boardsOfSize(3, 3) {
			list = append(list, [2]impl.Board{a, b}, [2]impl.Board{b, a})
		}
	}
	for _, pair := range list {
		want := sameList(cut(numbersOf(pair[0])), cut(numbersOf(pair[1])))
		if got, ok := impl.AreAlike(pair[0], pair[1]); !ok || got != want {
			t.Errorf("AreAlike %v: %v %v instead of %v", pair, got, ok, want)
		}
		if want {
			same++
		} else {
			different++
		}
	}
	if same == 0 || different == 0 {
		t.Error("AreAlike:", same, different)
	}
	// Boards that do not fit may be alike, as zeros at the end do not count.
	alike := [][2]string{{"11", "10/10"}, {"1/1", "11/00"}, {"0", "000000/000000"}, {"1", "000/000/001"}, {"110/100", "101/001"}}
	for _, pair := range alike {
		if got, ok := impl.AreAlike(of(pair[0]), of(pair[1])); !ok || !got {
			t.Errorf("AreAlike %v: %v %v", pair, got, ok)
		}
	}
	apart := [][2]string{{"0", "1"}, {"11/00", "10/01"}, {"110/011/101", "111/110/100"}}
	for _, pair := range apart {
		if got, ok := impl.AreAlike(of(pair[0]), of(pair[1])); !ok || got {
			t.Errorf("AreAlike %v: %v %v", pair, got, ok)
		}
	}
}

func TestRookNumbersByCell(t *testing.T) {
	for _, b := range sampleBoards() {
		p := pictureOf(b)
		for r := range p {
			for c := range p[r] {
				what := fmt.Sprint("NumbersByCell ", b, r, c)
				left, behind, ok := impl.NumbersByCell(b, r, c)
				if !p[r][c] {
					fails(t, what, left, behind, ok)
					continue
				}
				off := draw(b.Rows, b.Columns, func(i, j int) bool { return p[i][j] && (i != r || j != c) })
				struck := []int{1}
				if b.Rows > 1 && b.Columns > 1 {
					struck = numbersOf(without(p, r, c).board())
				}
				if !ok || !sameList(left, numbersOf(off.board())) || !sameList(behind, struck) {
					t.Errorf("%s: %v %v %v", what, left, behind, ok)
				}
			}
		}
		for _, r := range wrongIndices(b.Rows) {
			left, behind, ok := impl.NumbersByCell(b, r, 0)
			fails(t, fmt.Sprint("NumbersByCell, wrong row, ", b, r), left, behind, ok)
		}
		for _, c := range wrongIndices(b.Columns) {
			left, behind, ok := impl.NumbersByCell(b, 0, c)
			fails(t, fmt.Sprint("NumbersByCell, wrong column, ", b, c), left, behind, ok)
		}
	}
}

func TestRookCountWithCell(t *testing.T) {
	for _, b := range sampleBoards() {
		for k, lists := range placings(b) {
			for r := 0; r < b.Rows; r++ {
				for c := 0; c < b.Columns; c++ {
					want := 0
					for _, list := range lists {
						if list[r] == c {
							want++
						}
					}
					if n, ok := impl.CountWithCell(b, r, c, k); !ok || n != want {
						t.Errorf("CountWithCell %v %d %d %d: %d %v instead of %d", b, r, c, k, n, ok, want)
					}
				}
			}
			for _, r := range wrongIndices(b.Rows) {
				fails(t, fmt.Sprint("CountWithCell, wrong row, ", b, r, k), both(impl.CountWithCell(b, r, 0, k))...)
			}
			for _, c := range wrongIndices(b.Columns) {
				fails(t, fmt.Sprint("CountWithCell, wrong column, ", b, c, k), both(impl.CountWithCell(b, 0, c, k))...)
			}
		}
		for _, k := range wrongRookCounts() {
			fails(t, fmt.Sprint("CountWithCell ", b, k), both(impl.CountWithCell(b, 0, 0, k))...)
		}
	}
}

func TestRookTurnPlacement(t *testing.T) {
	for _, b := range sampleBoards() {
		for _, lists := range placings(b) {
			for _, rank := range someRanks(len(lists)) {
				want := make([]int, b.Columns)
				for c := range want {
					want[c] = -1
					for r, column := range lists[rank] {
						if column == c {
							want[c] = r
						}
					}
				}
				if got, ok := impl.TurnPlacement(b, lists[rank]); !ok || !sameList(got, want) {
					t.Errorf("TurnPlacement %v %v: %v %v instead of %v", b, lists[rank], got, ok, want)
				}
			}
		}
		for _, list := range wrongPlacings(b) {
			fails(t, fmt.Sprint("TurnPlacement ", b, list), both(impl.TurnPlacement(b, list))...)
		}
	}
}
