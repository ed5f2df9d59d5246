package tests

import (
	"testing"

	"loop.example/g01125/impl"
)

// Promise 2: rook numbers by lists, by cells and by products agree.

func TestRookLawsByLists(t *testing.T) {
	for _, b := range sampleBoards() {
		numbers := must(impl.RookNumbers(b))
		for k := 0; k <= impl.MaxSide; k++ {
			number := 0
			if k < len(numbers) {
				number = numbers[k]
			}
			lists, ok := impl.PlacementsOf(b, k)
			if ok != (number <= impl.MaxPlacements) || ok && len(lists) != number {
				t.Errorf("%v has the rook numbers %v, but %d placements with %d rooks, %v", b, numbers, len(lists), k, ok)
			}
			if _, ok := impl.PlacementWith(b, k, number); ok {
				t.Errorf("%v has the rook numbers %v, but %d rooks of the rank %d", b, numbers, k, number)
			}
			if number > 0 {
				last := must(impl.PlacementWith(b, k, number-1))
				if n := must(impl.RankPlacement(b, last)); n != number-1 {
					t.Errorf("%v: the last placement %v has the rank %d", b, last, n)
				}
			}
			for rank, list := range lists {
				if !must(impl.IsPlacement(b, list)) || must(impl.CountRooks(list)) != k {
					t.Errorf("%v: %v is no placement with %d rooks", b, list, k)
				}
				if must(impl.RankPlacement(b, list)) != rank || !sameList(must(impl.PlacementWith(b, k, rank)), list) {
					t.Errorf("%v: the rank of %v is not %d", b, list, rank)
				}
			}
		}
		if most := must(impl.MostRooks(b)); numbers[most] == 0 || len(cut(numbers)) != most+1 {
			t.Errorf("%v has the rook numbers %v, but at most %d rooks", b, numbers, most)
		}
	}
}

func TestRookLawsByCells(t *testing.T) {
	for _, b := range sampleBoards() {
		numbers := must(impl.RookNumbers(b))
		withCell := make([]int, impl.MaxSide+1)
		for r := 0; r < b.Rows; r++ {
			for c := 0; c < b.Columns; c++ {
				for k := range withCell {
					withCell[k] += must(impl.CountWithCell(b, r, c, k))
				}
				if must(impl.HasCell(b, r, c)) {
					cellLaw(t, b, r, c, numbers)
				}
			}
		}
		// Each rook of each placement is counted once, at its cell.
		for k, n := range withCell {
			if k < len(numbers) && n != k*numbers[k] || k >= len(numbers) && n != 0 {
				t.Errorf("%v has the rook numbers %v, but %d cells in placements with %d rooks", b, numbers, n, k)
			}
		}
	}
}

// cellLaw checks that placements are those without a rook in a cell and those with one there.
func cellLaw(t *testing.T, b impl.Board, r, c int, numbers []int) {
	t.Helper()
	left, behind, ok := impl.NumbersByCell(b, r, c)
	if !ok {
		t.Errorf("NumbersByCell %v %d %d fails", b, r, c)
		return
	}
	for k, n := range numbers {
		with := 0
		if k > 0 {
			with = behind[k-1]
		}
		if n != left[k]+with || with != must(impl.CountWithCell(b, r, c, k)) {
			t.Errorf("%v has the rook numbers %v, but %v and %v by the cell %d %d", b, numbers, left, behind, r, c)
		}
	}
	off := must(impl.PutCell(b, r, c, false))
	if !sameList(left, must(impl.RookNumbers(off))) {
		t.Errorf("%v: %v without the cell %d %d", b, left, r, c)
	}
	if b.Rows > 1 && b.Columns > 1 && !sameList(behind, must(impl.RookNumbers(must(impl.StrikeCell(b, r, c))))) {
		t.Errorf("%v: %v struck at %d %d", b, behind, r, c)
	}
}

// numbersByCells finds rook numbers by taking one cell after the other, until nothing is left, by NumbersByCell alone.
func numbersByCells(b impl.Board) []int {
	cells := must(impl.CellsOf(b))
	numbers := []int{1}
	for len(cells) > 0 {
		_, behind, _ := impl.NumbersByCell(b, cells[0][0], cells[0][1])
		for len(numbers) <= len(behind) {
			numbers = append(numbers, 0)
		}
		for k, n := range behind {
			numbers[k+1] += n
		}
		b = must(impl.PutCell(b, cells[0][0], cells[0][1], false))
		cells = must(impl.CellsOf(b))
	}
	return numbers
}

// strikeDown strikes a board at its last places until nothing is left to strike.
func strikeDown(b impl.Board) impl.Board {
	for b.Rows > 1 && b.Columns > 1 {
		b = must(impl.StrikeCell(b, b.Rows-1, b.Columns-1))
	}
	return b
}

func TestRookLawsCellByCell(t *testing.T) {
	for _, b := range sampleBoards() {
		if got := numbersByCells(b); !sameList(cut(got), cut(must(impl.RookNumbers(b)))) {
			t.Errorf("%v has the rook numbers %v by cells", b, got)
		}
		line := strikeDown(b)
		want := []int{1, must(impl.CountCells(line))}
		if got := must(impl.RookNumbers(line)); !sameList(got, want) {
			t.Errorf("%v, the line left of %v, has the rook numbers %v", line, b, got)
		}
		if must(impl.HasCell(line, 0, 0)) {
			_, behind, _ := impl.NumbersByCell(line, 0, 0)
			if !sameList(behind, []int{1}) {
				t.Errorf("%v struck at its first cell leaves %v", line, behind)
			}
		}
	}
}

func TestRookLawsByProducts(t *testing.T) {
	stacks := 0
	for _, pair := range pairs() {
		s, ok := impl.StackBoards(pair[0], pair[1])
		if !ok {
			continue
		}
		stacks++
		a, b := must(impl.RookNumbers(pair[0])), must(impl.RookNumbers(pair[1]))
		product, other := must(impl.MultiplyNumbers(a, b)), must(impl.MultiplyNumbers(b, a))
		numbers := must(impl.RookNumbers(s))
		if !sameList(cut(numbers), cut(product)) || !sameList(product, other) {
			t.Errorf("%v: the rook numbers %v of the stack, the products %v and %v", pair, numbers, product, other)
		}
		if must(impl.MostRooks(s)) != must(impl.MostRooks(pair[0]))+must(impl.MostRooks(pair[1])) {
			t.Errorf("%v: the most rooks of a stack", pair)
		}
	}
	if stacks < 1000 {
		t.Error("only", stacks, "stacks")
	}
}

func TestRookLawsOfComplements(t *testing.T) {
	for _, b := range squareBoards() {
		n := b.Rows
		not := must(impl.ComplementOf(b))
		told := must(impl.NumbersOfComplement(b))
		if !sameList(told, must(impl.RookNumbers(not))) {
			t.Errorf("%v: the complement is told to have %v", b, told)
		}
		if !sameList(must(impl.NumbersOfComplement(not)), must(impl.RookNumbers(b))) {
			t.Errorf("%v: the complement of the complement", b)
		}
		// At 0 only the placements with a rook in each row are left.
		permanent := must(impl.PermanentOf(b))
		if must(impl.FactorialAt(b, 0)) != permanent || must(impl.RookNumbers(b))[n] != permanent {
			t.Errorf("%v: the permanent %d", b, permanent)
		}
		// The complement has at x what the board has at -1 - x, with the other sign for odd n.
		sign := 1
		if n%2 == 1 {
			sign = -1
		}
		for x := -20; x <= 19; x++ {
			if must(impl.FactorialAt(not, x)) != sign*must(impl.FactorialAt(b, -1-x)) {
				t.Errorf("%v: FactorialAt of the complement and %d", b, x)
			}
		}
	}
}

func TestRookLawsOfTurns(t *testing.T) {
	for _, b := range sampleBoards() {
		turned := must(impl.TurnBoard(b))
		mirrored := must(impl.MirrorBoard(b))
		if !sameList(must(impl.RookNumbers(b)), must(impl.RookNumbers(turned))) {
			t.Errorf("%v: the rook numbers of the turned board", b)
		}
		for _, other := range []impl.Board{b, turned, mirrored} {
			if !must(impl.AreAlike(b, other)) || !must(impl.AreAlike(other, b)) {
				t.Errorf("%v is alike with %v", b, other)
			}
		}
		for k := 0; k <= impl.MaxSide; k++ {
			lists, _ := impl.PlacementsOf(b, k)
			for _, list := range lists {
				there := must(impl.TurnPlacement(b, list))
				if !must(impl.IsPlacement(turned, there)) || must(impl.CountRooks(there)) != k {
					t.Errorf("%v: the turned placement %v of %v", b, there, list)
				}
				if !sameList(must(impl.TurnPlacement(turned, there)), list) {
					t.Errorf("%v: %v turned twice", b, list)
				}
			}
		}
	}
}
