package tests

import (
	"fmt"
	"slices"
	"testing"

	"loop.example/g01125/impl"
)

// Promise 8: bishops are rooks on turned boards, and kings are counted by rows.

// pieceBoards holds all boards of up to 12 cells, and those on which the functions are tried one by one.
func pieceBoards() []impl.Board {
	return append(lawBoards(), bishopBoards()...)
}

// coloursOf lists the colours that places of a board have.
func coloursOf(b impl.Board) []int {
	if b.Rows == 1 && b.Columns == 1 {
		return []int{0}
	}
	return []int{0, 1}
}

// The bishop numbers are the products of the rook numbers of both colour boards.
func TestBishopLawsOfProducts(t *testing.T) {
	for _, b := range pieceBoards() {
		product, most := []int{1}, 0
		for _, colour := range coloursOf(b) {
			coloured := must(impl.ColourBoard(b, colour))
			product = must(impl.MultiplyNumbers(product, cut(must(impl.RookNumbers(coloured)))))
			most += must(impl.MostRooks(coloured))
		}
		if numbers := must(impl.BishopNumbers(b)); !sameList(numbers, product) {
			t.Errorf("%v: the bishop numbers are %v, not %v", b, numbers, product)
		}
		if got := must(impl.MostBishops(b)); got != most {
			t.Errorf("%v: %d quiet bishops, and %d rooks on both colour boards", b, got, most)
		}
	}
}

// The greatest numbers are the greatest k, the first numbers are known, and no number is 0.
func TestBishopLawsOfNumbers(t *testing.T) {
	for _, b := range pieceBoards() {
		cells := must(impl.CountCells(b))
		for _, f := range countingCalls() {
			numbers := must(f.numbers(b))
			if must(f.most(b)) != len(numbers)-1 || slices.Contains(numbers, 0) || numbers[0] != 1 {
				t.Errorf("%v: the numbers of %s are %v, and the most %d", b, f.of.name, numbers, must(f.most(b)))
			}
			if (cells > 0) != (len(numbers) > 1) || cells > 0 && numbers[1] != cells {
				t.Errorf("%v: the numbers of %s are %v", b, f.of.name, numbers)
			}
		}
	}
}

// On all boards of up to 12 cells the numbers are those found by trying.
func TestBishopLawsOfTrying(t *testing.T) {
	for _, b := range pieceBoards() {
		for _, f := range countingCalls() {
			if numbers, want := must(f.numbers(b)), quietOn(b, f.of).counts; !sameList(numbers, want) {
				t.Errorf("%v: the numbers of %s are %v, not %v", b, f.of.name, numbers, want)
			}
		}
		counts := quietOn(b, queenKind()).counts
		for k := 0; k <= 12; k++ {
			got := must(impl.CountBoth(b, k))
			if k >= len(counts) && got != 0 || k < len(counts) && got != counts[k] {
				t.Errorf("%v: %d times %d queens, and %v by trying", b, got, k, counts)
			}
		}
	}
}

// The diagonals of each place tell its row and its column on the colour board, from which CellOfColour leads back.
// No other row and column of the colour board have a place.
func TestBishopLawsOfPlaces(t *testing.T) {
	for _, b := range pieceBoards() {
		places := 0
		for _, colour := range coloursOf(b) {
			coloured := must(impl.ColourBoard(b, colour))
			var sums, differences []int
			for r := range b.Rows {
				for c := (r + colour) % 2; c < b.Columns; c += 2 {
					sum, difference, ok := impl.DiagonalOf(b, r, c)
					if !ok || sum%2 != colour {
						t.Fatalf("%v: the place %d %d is on the diagonals %d %d", b, r, c, sum, difference)
					}
					sums, differences = append(sums, sum), append(differences, difference)
				}
			}
			sums, differences = inOrder(sums), inOrder(differences)
			if coloured.Rows != len(sums) || coloured.Columns != len(differences) {
				t.Errorf("%v: the colour board %v, and the diagonals %v and %v", b, coloured, sums, differences)
				continue
			}
			for i, sum := range sums {
				for j, difference := range differences {
					if placeLaw(t, b, colour, [2]int{i, j}, [2]int{sum, difference}) {
						places++
					}
				}
			}
		}
		if places != b.Rows*b.Columns {
			t.Errorf("%v: the colour boards have %d places", b, places)
		}
	}
}

// placeLaw checks a row and a column of a colour board, and reports whether they have a place of the board.
func placeLaw(t *testing.T, b impl.Board, colour int, at, diagonals [2]int) bool {
	t.Helper()
	coloured := must(impl.ColourBoard(b, colour))
	on := must(impl.HasCell(coloured, at[0], at[1]))
	r, c, ok := impl.CellOfColour(b, colour, at[0], at[1])
	if !ok {
		if r != 0 || c != 0 || on {
			t.Errorf("%v: the row and column %v of the colour board have no place, and %d %d %v", b, at, r, c, on)
		}
		return false
	}
	sum, difference, fine := impl.DiagonalOf(b, r, c)
	if !fine || [2]int{sum, difference} != diagonals || must(impl.HasCell(b, r, c)) != on {
		t.Errorf("%v: %d %d of the row and column %v is on the diagonals %d %d", b, r, c, at, sum, difference)
	}
	return true
}

// A placement tells as many bishops as it has rooks, quiet ones, in order. Different ones tell different bishops,
// and those of both colours are quiet together.
func TestBishopLawsOfPlacements(t *testing.T) {
	for _, b := range pieceBoards() {
		var ofColours [2][][][]int
		for _, colour := range coloursOf(b) {
			coloured := must(impl.ColourBoard(b, colour))
			told := map[string]bool{}
			lists := someOf(coloured)
			for _, list := range lists {
				cells := must(impl.BishopsOf(b, colour, list))
				if len(cells) != must(impl.CountRooks(list)) || !must(impl.AreQuietBishops(b, cells)) || !cellsInOrder(cells) {
					t.Errorf("%v: %v tells the bishops %v", b, list, cells)
				}
				for _, cell := range cells {
					if (cell[0]+cell[1])%2 != colour {
						t.Errorf("%v: %v tells the bishops %v of the colour %d", b, list, cells, colour)
					}
				}
				told[fmt.Sprint(cells)] = true
				ofColours[colour] = append(ofColours[colour], cells)
			}
			if len(told) != len(lists) {
				t.Errorf("%v: %d placements tell %d lists of bishops", b, len(lists), len(told))
			}
		}
		for i, even := range ofColours[0] {
			if odd := ofColours[1]; len(odd) > 0 && !must(impl.AreQuietBishops(b, append(slices.Clone(odd[i%len(odd)]), even...))) {
				t.Errorf("%v: %v and %v are not quiet", b, even, odd[i%len(odd)])
			}
		}
	}
}

// cellsInOrder reports whether cells are ordered by rows and then by columns, none twice.
func cellsInOrder(cells [][]int) bool {
	for i := 1; i < len(cells); i++ {
		if !comesBefore(cells[i-1], cells[i]) {
			return false
		}
	}
	return true
}

// Each list of quiet bishops of one colour is told by a placement: there are as many as the rook numbers tell.
func TestBishopLawsOfAllPlacements(t *testing.T) {
	for _, b := range pieceBoards() {
		if b.Rows*b.Columns > 9 {
			continue
		}
		for _, colour := range coloursOf(b) {
			p := pictureOf(b)
			own := draw(b.Rows, b.Columns, func(r, c int) bool { return p[r][c] && (r+c)%2 == colour }).board()
			told := map[string]bool{}
			coloured := must(impl.ColourBoard(b, colour))
			for _, lists := range placings(coloured) {
				for _, list := range lists {
					told[fmt.Sprint(must(impl.BishopsOf(b, colour, list)))] = true
				}
			}
			if all := together(must(impl.BishopNumbers(own))); len(told) != all {
				t.Errorf("%v: placements tell %d lists of bishops of the colour %d, not %d", b, len(told), colour, all)
			}
		}
	}
}

// The first lists are quiet, in order, and the lexicographically first ones, just for the k for which there are some.
func TestBishopLawsOfFirsts(t *testing.T) {
	for _, b := range pieceBoards() {
		for i, f := range listingCalls() {
			most := must(countingCalls()[i].most(b))
			firsts := quietOn(b, f.of).firsts
			for k := 0; k <= 12; k++ {
				cells, ok := f.first(b, k)
				if ok != (k <= most) {
					t.Errorf("%v: the first %d %s: %v, and at most %d", b, k, f.of.name, ok, most)
				}
				if !ok {
					fails(t, fmt.Sprint(b, ": the first ", k, " ", f.of.name), cells)
				} else if len(cells) != k || !cellsInOrder(cells) || !must(f.quiet(b, cells)) || !sameLists(cells, firsts[k]) {
					t.Errorf("%v: the first %d %s are %v, not %v", b, k, f.of.name, cells, firsts[k])
				}
			}
		}
	}
}

// Whether pieces are quiet is told by their pairs, and the order of a list does not count.
func TestBishopLawsOfOrder(t *testing.T) {
	for _, f := range listingCalls() {
		for _, b := range bishopBoards() {
			cells := must(impl.CellsOf(b))
			for k, first := range quietOn(b, f.of).firsts {
				list := slices.Clone(first)
				if len(cells) > 0 && k%2 == 1 {
					list[k/2] = cells[(k*7)%len(cells)]
				}
				want := true
				for i := range list {
					for j := range i {
						want = want && must(f.quiet(b, [][]int{list[i], list[j]}))
					}
				}
				for turn := range list {
					turnedList := slices.Concat(list[turn:], list[:turn])
					if got := must(f.quiet(b, turnedList)); got != want {
						t.Errorf("%v: %s are quiet in %v: %v, and pair by pair %v", b, f.of.name, turnedList, got, want)
					}
					slices.Reverse(turnedList)
					if got := must(f.quiet(b, turnedList)); got != want {
						t.Errorf("%v: %s are quiet in %v: %v, and pair by pair %v", b, f.of.name, turnedList, got, want)
					}
				}
			}
		}
	}
}

// Two pieces are the pairs that do not attack each other.
func TestBishopLawsOfPairs(t *testing.T) {
	for _, b := range pieceBoards() {
		count := must(impl.CountCells(b))
		if pairs, two := must(impl.QueenPairs(b)), must(impl.CountBoth(b, 2)); pairs+two != count*(count-1)/2 {
			t.Errorf("%v: %d pairs of queens attack each other, and %d do not, of %d cells", b, pairs, two, count)
		}
		if want := pairsMeeting(pictureOf(b), queenKind()); must(impl.QueenPairs(b)) != want {
			t.Errorf("%v: %d pairs of queens attack each other, not %d", b, must(impl.QueenPairs(b)), want)
		}
	}
}

// What is quiet as bishops and as rooks is a placement of rooks that are quiet bishops, too.
func TestBishopLawsOfBoth(t *testing.T) {
	for _, b := range pieceBoards() {
		for k := 0; k <= impl.MaxSide; k++ {
			lists, ok := impl.PlacementsOf(b, k)
			if !ok {
				continue
			}
			count := 0
			for _, list := range lists {
				var cells [][]int
				for r, c := range list {
					if c != -1 {
						cells = append(cells, []int{r, c})
					}
				}
				if must(impl.AreQuietBishops(b, cells)) {
					count++
				}
			}
			if got := must(impl.CountBoth(b, k)); got != count {
				t.Errorf("%v: %d ways for %d queens, and %d placements are quiet", b, got, k, count)
			}
		}
	}
}

// withoutCell is a board without a cell, and withoutNear one without all cells that a piece there attacks.
func withoutCell(b impl.Board, cell []int) impl.Board {
	return must(impl.PutCell(b, cell[0], cell[1], false))
}

func withoutNear(b impl.Board, cell []int, of kind) impl.Board {
	p := pictureOf(b)
	return draw(b.Rows, b.Columns, func(r, c int) bool {
		return p[r][c] && !sameList([]int{r, c}, cell) && !of.meet([]int{r, c}, cell)
	}).board()
}

// By a cell: k pieces stand on the board without it, or one on it and the others where it does not attack them.
func TestBishopLawsOfCells(t *testing.T) {
	for _, b := range bishopBoards() {
		for _, cell := range must(impl.CellsOf(b)) {
			without := withoutCell(b, cell)
			for _, f := range countingCalls() {
				numbers := must(f.numbers(b))
				fewer, behind := must(f.numbers(without)), must(f.numbers(withoutNear(b, cell, f.of)))
				for k := range 13 {
					if numberAt(numbers, k) != numberAt(fewer, k)+numberAt(behind, k-1) {
						t.Errorf("%v: the numbers of %s are %v, and by the cell %v %v and %v", b, f.of.name, numbers, cell, fewer, behind)
					}
				}
			}
			behind := withoutNear(b, cell, queenKind())
			for k := 1; k <= 12; k++ {
				if must(impl.CountBoth(b, k)) != must(impl.CountBoth(without, k))+must(impl.CountBoth(behind, k-1)) {
					t.Errorf("%v: the numbers of %d queens by the cell %v", b, k, cell)
				}
			}
		}
	}
}

// numberAt is the number of a list at an index, or 0 where there is none.
func numberAt(list []int, i int) int {
	if i < 0 || i >= len(list) {
		return 0
	}
	return list[i]
}

// Turns and mirrors change no number.
func TestBishopLawsOfTurns(t *testing.T) {
	for _, b := range pieceBoards() {
		for _, other := range []impl.Board{must(impl.TurnBoard(b)), must(impl.MirrorBoard(b))} {
			for _, f := range countingCalls() {
				if !sameList(must(f.numbers(b)), must(f.numbers(other))) {
					t.Errorf("%v and %v: the numbers of %s", b, other, f.of.name)
				}
			}
			if must(impl.QueenPairs(b)) != must(impl.QueenPairs(other)) {
				t.Errorf("%v and %v: the pairs of queens", b, other)
			}
			for k := 0; k <= 6; k++ {
				if must(impl.CountBoth(b, k)) != must(impl.CountBoth(other, k)) {
					t.Errorf("%v and %v: %d queens", b, other, k)
				}
			}
		}
	}
}

// Kings on both sides of a row without cells, or of a column without cells, do not attack each other.
func TestBishopLawsOfRowsApart(t *testing.T) {
	for _, above := range append(boardsOfSize(2, 3), boardsOfSize(1, 4)...) {
		for i, below := range boardsOfSize(2, above.Columns) {
			if i%5 != 0 {
				continue
			}
			p, q := pictureOf(above), pictureOf(below)
			apart := draw(above.Rows+3, above.Columns, func(r, c int) bool {
				return r < above.Rows && p[r][c] || r > above.Rows && q[r-above.Rows-1][c]
			}).board()
			product := must(impl.MultiplyNumbers(must(impl.KingNumbers(above)), must(impl.KingNumbers(below))))
			for _, b := range []impl.Board{apart, must(impl.TurnBoard(apart))} {
				if numbers := must(impl.KingNumbers(b)); !sameList(numbers, product) {
					t.Errorf("%v: the king numbers are %v, not %v", b, numbers, product)
				}
			}
		}
	}
}
