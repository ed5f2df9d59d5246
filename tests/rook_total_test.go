package tests

import (
	"fmt"
	"testing"

	"loop.example/g01125/impl"
)

// Promise 11 for chapter 2: no call panics, none modifies an argument, and failing calls return zeros.

// three gathers the results of a call of three results.
func three[A, B any](a A, b B, ok bool) []any {
	return []any{a, b, ok}
}

// rookCalls holds, for each function that takes a board, calls that succeed for the board 11/01.
func rookCalls() []boardCall {
	other := of("10/01")
	calls := []boardCall{
		{"RookNumbers", func(p *probe, b impl.Board) []any { return both(impl.RookNumbers(p.board(b))) }},
		{"MostRooks", func(p *probe, b impl.Board) []any { return both(impl.MostRooks(p.board(b))) }},
		{"PermanentOf", func(p *probe, b impl.Board) []any { return both(impl.PermanentOf(p.board(b))) }},
		{"RookPolynomialAt", func(p *probe, b impl.Board) []any { return both(impl.RookPolynomialAt(p.board(b), -20)) }},
		{"FactorialAt", func(p *probe, b impl.Board) []any { return both(impl.FactorialAt(p.board(b), 20)) }},
		{"NumbersOfComplement", func(p *probe, b impl.Board) []any { return both(impl.NumbersOfComplement(p.board(b))) }},
		{"AreAlike first", func(p *probe, b impl.Board) []any { return both(impl.AreAlike(p.board(b), p.board(other))) }},
		{"AreAlike second", func(p *probe, b impl.Board) []any { return both(impl.AreAlike(p.board(other), p.board(b))) }},
		{"NumbersByCell", func(p *probe, b impl.Board) []any { return three(impl.NumbersByCell(p.board(b), 0, 0)) }},
		{"CountWithCell", func(p *probe, b impl.Board) []any { return both(impl.CountWithCell(p.board(b), 0, 0, 1)) }},
		{"CountWithCell, no cell", func(p *probe, b impl.Board) []any {
			return both(impl.CountWithCell(p.board(b), 1, 0, 1))
		}},
	}
	for k := 0; k <= impl.MaxSide; k++ {
		calls = append(calls, boardCall{fmt.Sprint("PlacementsOf ", k), func(p *probe, b impl.Board) []any {
			return both(impl.PlacementsOf(p.board(b), k))
		}})
	}
	for k := 0; k <= 2; k++ {
		calls = append(calls, boardCall{fmt.Sprint("PlacementWith ", k), func(p *probe, b impl.Board) []any {
			return both(impl.PlacementWith(p.board(b), k, 0))
		}})
	}
	for _, list := range [][]int{{-1, -1}, {0, -1}, {-1, 1}, {0, 1}} {
		calls = append(calls, placementCalls(list)...)
	}
	return calls
}

// placementCalls holds calls of the functions that take a board and a list.
func placementCalls(list []int) []boardCall {
	return []boardCall{
		{fmt.Sprint("IsPlacement ", list), func(p *probe, b impl.Board) []any {
			return both(impl.IsPlacement(p.board(b), p.list(list)))
		}},
		{fmt.Sprint("RankPlacement ", list), func(p *probe, b impl.Board) []any {
			return both(impl.RankPlacement(p.board(b), p.list(list)))
		}},
		{fmt.Sprint("TurnPlacement ", list), func(p *probe, b impl.Board) []any {
			return both(impl.TurnPlacement(p.board(b), p.list(list)))
		}},
	}
}

func TestRookTotalWrongBoards(t *testing.T) {
	checkWrongBoards(t, rookCalls())
	for _, b := range wrongBoards() {
		fails(t, "AreAlike, twice the same", both(impl.AreAlike(b, b))...)
		// A list as long as Cells are, or as there are rows, is no placement on what is no board.
		for _, length := range []int{0, len(b.Cells), b.Rows} {
			if length >= 0 && length <= 64 {
				list := make([]int, length)
				for r := range list {
					list[r] = -1
				}
				fails(t, "IsPlacement", both(impl.IsPlacement(b, list))...)
				fails(t, "RankPlacement", both(impl.RankPlacement(b, list))...)
				fails(t, "TurnPlacement", both(impl.TurnPlacement(b, list))...)
			}
		}
	}
}

func TestRookTotalMemory(t *testing.T) {
	checkCallMemory(t, rookCalls())
	for _, b := range largeBoards() {
		for k, lists := range placings(b) {
			for _, rank := range someRanks(len(lists)) {
				checkMemory(t, "PlacementWith", func(p *probe) []any { return both(impl.PlacementWith(p.board(b), k, rank)) })
				if rank%7 == 0 {
					for _, f := range placementCalls(lists[rank]) {
						checkMemory(t, f.name, func(p *probe) []any { return f.call(p, b) })
					}
				}
			}
		}
		for _, cell := range pictureOf(b).cells() {
			checkMemory(t, "NumbersByCell", func(p *probe) []any { return three(impl.NumbersByCell(p.board(b), cell[0], cell[1])) })
		}
		for _, list := range wrongPlacings(b) {
			for _, f := range placementCalls(list) {
				checkMemory(t, f.name, func(p *probe) []any { return f.call(p, b) })
			}
		}
		checkMemory(t, "AreAlike, twice the same", func(p *probe) []any {
			same := p.board(b)
			return both(impl.AreAlike(same, same))
		})
	}
}

// Functions of lists alone: of right ones, of wrong ones, and of one list for both arguments.
func TestRookTotalMemoryOfLists(t *testing.T) {
	lists := [][]int{{}, {1}, {0}, {-1}, {1, 6, 9, 2}, {5, -1, 0}, {100000, 0, 100000}, {100001}, {0, 0, 0, 0, 0, 0, 0}, {0, 0, 0, 0, 0, 0, 0, 0}}
	for _, a := range lists {
		checkMemory(t, fmt.Sprint("CountRooks ", a), func(p *probe) []any { return both(impl.CountRooks(p.list(a))) })
		for _, b := range lists {
			checkMemory(t, fmt.Sprint("MultiplyNumbers ", a, b), func(p *probe) []any {
				return both(impl.MultiplyNumbers(p.list(a), p.list(b)))
			})
		}
		checkMemory(t, fmt.Sprint("MultiplyNumbers, twice ", a), func(p *probe) []any {
			same := p.list(a)
			return both(impl.MultiplyNumbers(same, same))
		})
	}
}

func TestRookTotalStrangeNumbers(t *testing.T) {
	boards := append(largeBoards(), wrongBoards()...)
	for _, b := range boards {
		for _, x := range strangeNumbers() {
			calm(t, fmt.Sprint(b, " with ", x), func() { strangeNumber(t, b, x) })
			for _, y := range strangeNumbers() {
				calm(t, fmt.Sprint(b, " with ", x, y), func() { strangePair(t, b, x, y) })
			}
		}
	}
}

// strangeNumber makes the calls that take a board and one number.
func strangeNumber(t *testing.T, b impl.Board, x int) {
	t.Helper()
	what := fmt.Sprint(b, " with ", x)
	count := x >= 0 && x <= 6
	point := x >= -20 && x <= 20
	is := impl.IsBoard(b)
	if lists, ok := impl.PlacementsOf(b, x); !ok {
		fails(t, what, lists, ok)
	} else if !is || !count {
		t.Errorf("PlacementsOf %s succeeds", what)
	}
	n, ok := impl.RookPolynomialAt(b, x)
	if ok != (is && point) {
		t.Errorf("RookPolynomialAt %s: %v", what, ok)
	} else if !ok {
		fails(t, what, n, ok)
	}
	n, ok = impl.FactorialAt(b, x)
	if ok != (is && point && b.Rows == b.Columns) {
		t.Errorf("FactorialAt %s: %v", what, ok)
	} else if !ok {
		fails(t, what, n, ok)
	}
	if _, ok := impl.MultiplyNumbers([]int{1, x}, []int{x, 1}); ok != (x >= 0 && x <= 100000) {
		t.Errorf("MultiplyNumbers with %d: %v", x, ok)
	}
}

// strangePair makes the calls that take a board and two numbers, or a list of two.
func strangePair(t *testing.T, b impl.Board, x, y int) {
	t.Helper()
	what := fmt.Sprint(b, " with ", x, y)
	is := impl.IsBoard(b)
	inside := is && x >= 0 && x < b.Rows && y >= 0 && y < b.Columns
	left, behind, ok := impl.NumbersByCell(b, x, y)
	if ok != (inside && pictureOf(b)[x][y]) {
		t.Errorf("NumbersByCell %s: %v", what, ok)
	} else if !ok {
		fails(t, what, left, behind, ok)
	}
	for _, k := range []int{-1, 0, 1, 6, 7} {
		n, ok := impl.CountWithCell(b, x, y, k)
		if ok != (inside && k >= 0 && k <= 6) {
			t.Errorf("CountWithCell %s and %d: %v", what, k, ok)
		} else if !ok {
			fails(t, what, n, ok)
		}
	}
	found, ok := impl.PlacementWith(b, x, y)
	if ok != (is && x >= 0 && x <= 6 && y >= 0 && y < len(placings(b)[x])) {
		t.Errorf("PlacementWith %s: %v", what, ok)
	} else if !ok {
		fails(t, what, found, ok)
	}
	list := []int{x, y}
	placing := is && isPlacing(pictureOf(b), list)
	if fine, ok := impl.IsPlacement(b, list); ok != is || fine != placing {
		t.Errorf("IsPlacement %s: %v %v", what, fine, ok)
	}
	if _, ok := impl.RankPlacement(b, list); ok != placing {
		t.Errorf("RankPlacement %s: %v", what, ok)
	}
	if _, ok := impl.TurnPlacement(b, list); ok != placing {
		t.Errorf("TurnPlacement %s: %v", what, ok)
	}
}

// Lists far over any limit end in a failure, or are no placement.
func TestRookTotalLongLists(t *testing.T) {
	long := make([]int, 100000)
	for i := range long {
		long[i] = -1
	}
	b := must(impl.FullBoard(6, 6))
	if is, ok := impl.IsPlacement(b, long); is || !ok {
		t.Error("IsPlacement, a long list:", is, ok)
	}
	fails(t, "RankPlacement, a long list", both(impl.RankPlacement(b, long))...)
	fails(t, "TurnPlacement, a long list", both(impl.TurnPlacement(b, long))...)
	fails(t, "CountRooks, a long list", both(impl.CountRooks(long))...)
	fails(t, "MultiplyNumbers, a long list", both(impl.MultiplyNumbers(make([]int, 100000), []int{1}))...)
}
