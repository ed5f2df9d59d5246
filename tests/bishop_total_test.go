package tests

import (
	"fmt"
	"slices"
	"testing"

	"loop.example/g01125/impl"
)

// Promise 11 for chapter 8: no call panics, none modifies an argument, and failing calls return zeros.

// plainPieceCalls holds the calls of the functions that take a board alone, all of which succeed for any board.
func plainPieceCalls() []boardCall {
	return []boardCall{
		{"BishopNumbers", func(p *probe, b impl.Board) []any { return both(impl.BishopNumbers(p.board(b))) }},
		{"MostBishops", func(p *probe, b impl.Board) []any { return both(impl.MostBishops(p.board(b))) }},
		{"KingNumbers", func(p *probe, b impl.Board) []any { return both(impl.KingNumbers(p.board(b))) }},
		{"MostKings", func(p *probe, b impl.Board) []any { return both(impl.MostKings(p.board(b))) }},
		{"QueenPairs", func(p *probe, b impl.Board) []any { return both(impl.QueenPairs(p.board(b))) }},
	}
}

// placeCall is a call of DiagonalOf with a place.
func placeCall(r, c int) boardCall {
	return boardCall{fmt.Sprint("DiagonalOf ", r, c), func(p *probe, b impl.Board) []any {
		return three(impl.DiagonalOf(p.board(b), r, c))
	}}
}

// colourCall is a call of ColourBoard, and meetingCall one of CellOfColour.
func colourCall(colour int) boardCall {
	return boardCall{fmt.Sprint("ColourBoard ", colour), func(p *probe, b impl.Board) []any {
		return both(impl.ColourBoard(p.board(b), colour))
	}}
}

func meetingCall(colour, i, j int) boardCall {
	return boardCall{fmt.Sprint("CellOfColour ", colour, i, j), func(p *probe, b impl.Board) []any {
		return three(impl.CellOfColour(p.board(b), colour, i, j))
	}}
}

// tellingCall is a call of BishopsOf with a list.
func tellingCall(colour int, list []int) boardCall {
	return boardCall{fmt.Sprint("BishopsOf ", colour, list), func(p *probe, b impl.Board) []any {
		return both(impl.BishopsOf(p.board(b), colour, p.list(list)))
	}}
}

// countCalls holds the calls of the functions that take a number of pieces.
func countCalls(k int) []boardCall {
	return []boardCall{
		{fmt.Sprint("FirstBishops ", k), func(p *probe, b impl.Board) []any { return both(impl.FirstBishops(p.board(b), k)) }},
		{fmt.Sprint("FirstKings ", k), func(p *probe, b impl.Board) []any { return both(impl.FirstKings(p.board(b), k)) }},
		{fmt.Sprint("CountBoth ", k), func(p *probe, b impl.Board) []any { return both(impl.CountBoth(p.board(b), k)) }},
	}
}

// cellsCalls holds the calls of the functions that take a list of cells.
func cellsCalls(cells [][]int) []boardCall {
	return []boardCall{
		{fmt.Sprint("AreQuietBishops ", cells), func(p *probe, b impl.Board) []any {
			return both(impl.AreQuietBishops(p.board(b), p.nested(cells)))
		}},
		{fmt.Sprint("AreQuietKings ", cells), func(p *probe, b impl.Board) []any {
			return both(impl.AreQuietKings(p.board(b), p.nested(cells)))
		}},
	}
}

// pieceCalls holds, for each function that takes a board, calls that succeed for the board 11/01.
func pieceCalls() []boardCall {
	calls := append(plainPieceCalls(), countCalls(0)...)
	calls = append(calls, countCalls(1)...)
	calls = append(calls, countCalls(2)[0], countCalls(2)[2], countCalls(12)[2], colourCall(0), colourCall(1))
	for r := range 2 {
		for c := range 2 {
			calls = append(calls, placeCall(r, c))
		}
		calls = append(calls, meetingCall(0, r, 0), meetingCall(1, 0, r))
	}
	for _, list := range [][]int{{-1, -1}, {0, -1}, {-1, 0}} {
		calls = append(calls, tellingCall(0, list))
	}
	calls = append(calls, tellingCall(1, []int{-1}), tellingCall(1, []int{0}))
	for _, cells := range [][][]int{nil, {{0, 0}}, {{1, 0}}, {{0, 0}, {0, 1}}, {{1, 1}, {0, 1}}, {{0, 1}, {0, 1}}, {nil}, {{0, 1, 1}}, {{2, 0}}, {{-1, 64}}} {
		calls = append(calls, cellsCalls(cells)...)
	}
	return calls
}

func TestBishopTotalWrongBoards(t *testing.T) {
	checkWrongBoards(t, pieceCalls())
	for _, b := range wrongBoards() {
		// Arguments that are wrong, too, and lists as long as Cells are, or as there are rows.
		for _, x := range append(wrongColours(), 0, 1) {
			fails(t, fmt.Sprint("ColourBoard ", b, x), both(impl.ColourBoard(b, x))...)
			fails(t, fmt.Sprint("CellOfColour ", b, x), three(impl.CellOfColour(b, x, x, x))...)
			fails(t, fmt.Sprint("DiagonalOf ", b, x), three(impl.DiagonalOf(b, x, x))...)
			fails(t, fmt.Sprint("FirstBishops ", b, x), both(impl.FirstBishops(b, x))...)
			fails(t, fmt.Sprint("FirstKings ", b, x), both(impl.FirstKings(b, x))...)
			fails(t, fmt.Sprint("CountBoth ", b, x), both(impl.CountBoth(b, x))...)
			fails(t, fmt.Sprint("AreQuietBishops ", b, x), both(impl.AreQuietBishops(b, [][]int{{x, x}}))...)
			fails(t, fmt.Sprint("AreQuietKings ", b, x), both(impl.AreQuietKings(b, [][]int{{x}, nil}))...)
			for _, length := range []int{0, 1, 2, 3, len(b.Cells)} {
				list := make([]int, length)
				for r := range list {
					list[r] = -1
				}
				fails(t, fmt.Sprint("BishopsOf ", b, x, list), both(impl.BishopsOf(b, x, list))...)
			}
		}
	}
}

func TestBishopTotalMemory(t *testing.T) {
	checkCallMemory(t, pieceCalls())
	for _, b := range append(edgeBoards(), wrongBoards()...) {
		calls := plainPieceCalls()
		for _, k := range append(wrongPieceCounts(), 0, 3, 4, 5, 6, 9, 10, 12) {
			calls = append(calls, countCalls(k)...)
		}
		for _, colour := range append(wrongColours(), 0, 1) {
			calls = append(calls, colourCall(colour), meetingCall(colour, 1, 1), placeCall(colour, 0), placeCall(0, colour))
		}
		for _, f := range calls {
			checkMemory(t, fmt.Sprint(f.name, " ", b), func(p *probe) []any { return f.call(p, b) })
		}
	}
}

// Right lists and wrong ones, for each function of a list.
func TestBishopTotalMemoryOfLists(t *testing.T) {
	for _, b := range append(largeBoards(), edgeBoards()...) {
		p := pictureOf(b)
		var calls []boardCall
		for colour := range 2 {
			coloured := colourPicture(p, colour)
			if coloured == nil {
				calls = append(calls, tellingCall(colour, nil), tellingCall(colour, []int{-1}))
				continue
			}
			for i, list := range append(someOf(coloured.board()), wrongPlacings(coloured.board())...) {
				if i%3 == 0 {
					calls = append(calls, tellingCall(colour, list), tellingCall(2, list))
				}
			}
		}
		for _, f := range listingCalls() {
			for _, first := range quietOn(b, f.of).firsts {
				calls = append(calls, cellsCalls(first)...)
				calls = append(calls, cellsCalls(slices.Insert(slices.Clone(first), len(first)/2, []int{0, 0}))...)
			}
		}
		for i, wrong := range wrongCells(p) {
			if len(wrong) < 64 && i%2 == 0 {
				calls = append(calls, cellsCalls([][]int{wrong})...)
				calls = append(calls, cellsCalls([][]int{{0, 0}, wrong, {2, 1}})...)
			}
		}
		for _, f := range calls {
			checkMemory(t, fmt.Sprint(f.name, " ", b), func(p *probe) []any { return f.call(p, b) })
		}
	}
}

// The arguments of one call, and the cells of one argument, may be one memory.
func TestBishopTotalOneMemory(t *testing.T) {
	full := must(impl.FullBoard(3, 4))
	// Three cells that lie one behind the other in one list, so that the capacity of each is in the next one.
	whole := []int{0, 0, 1, 3, 2, 1, 9}
	cells := [][]int{whole[:2], whole[2:4], whole[4:6]}
	for _, f := range listingCalls() {
		if got, ok := f.quiet(full, cells); !ok || !got {
			t.Errorf("%s in %v: %v %v", f.of.name, cells, got, ok)
		}
		// One cell twice, and lists that are the beginning of another one.
		for _, same := range [][][]int{{whole[:2], whole[:2]}, {whole[:2], whole[:1]}, {whole[:3], whole[:2]}, {whole, whole}, {whole[:0], whole[:2]}} {
			if got, ok := f.quiet(full, same); !ok || got {
				t.Errorf("%s in %v: %v %v", f.of.name, same, got, ok)
			}
		}
	}
	if !sameList(whole, []int{0, 0, 1, 3, 2, 1, 9}) {
		t.Error("the cells are", whole, "now")
	}
	// Cells of a board as a cell, and as a placement.
	numbers := []int{0, 3}
	b := impl.Board{Rows: 2, Columns: 4, Cells: numbers} // 0000/1100
	for _, f := range listingCalls() {
		if got, ok := f.quiet(b, [][]int{numbers}); !ok || got {
			t.Errorf("%s in Cells: %v %v", f.of.name, got, ok)
		}
	}
	numbers = []int{1, 0, 2}
	b = impl.Board{Rows: 3, Columns: 3, Cells: numbers} // 100/000/010
	fails(t, "BishopsOf Cells", both(impl.BishopsOf(b, 0, numbers))...)
	fails(t, "BishopsOf a part of Cells", both(impl.BishopsOf(b, 1, numbers[:2]))...)
	numbers = []int{1, 0}
	b = impl.Board{Rows: 2, Columns: 2, Cells: numbers} // 10/00
	if got, ok := impl.AreQuietKings(b, [][]int{numbers[1:], numbers}); !ok || got || !sameList(numbers, []int{1, 0}) {
		t.Error("AreQuietKings, parts of Cells:", got, ok, numbers)
	}
}

func TestBishopTotalStrangeNumbers(t *testing.T) {
	boards := append(append(largeBoards(), wrongBoards()...), of("11/01"), of("110/100/100"), of("01/00"))
	for _, b := range boards {
		for _, x := range append(strangeNumbers(), 2, 3, 4, 10, 11, 12, 13) {
			calm(t, fmt.Sprint(b, " with ", x), func() { strangePieces(t, b, x) })
			for _, y := range append(strangeNumbers(), 2, 3, 4) {
				calm(t, fmt.Sprint(b, " with ", x, y), func() { strangePlaces(t, b, x, y) })
			}
		}
	}
}

// strangePieces makes the calls that take one number.
func strangePieces(t *testing.T, b impl.Board, x int) {
	t.Helper()
	what := fmt.Sprint(" ", b, " with ", x)
	is, few := impl.IsBoard(b), x >= 0 && x <= 12
	most := [2]int{-1, -1}
	if is {
		most = [2]int{len(quietOn(b, bishopKind()).counts) - 1, len(quietOn(b, kingKind()).counts) - 1}
	}
	knowsZeros(t, "FirstBishops"+what, few && x <= most[0], both(impl.FirstBishops(b, x)))
	knowsZeros(t, "FirstKings"+what, few && x <= most[1], both(impl.FirstKings(b, x)))
	knowsZeros(t, "CountBoth"+what, is && few, both(impl.CountBoth(b, x)))
	colour := x == 0 || x == 1 && is && b.Rows+b.Columns > 2
	knowsZeros(t, "ColourBoard"+what, is && colour, both(impl.ColourBoard(b, x)))
}

// strangePlaces makes the calls that take places or lists, with two numbers.
func strangePlaces(t *testing.T, b impl.Board, x, y int) {
	t.Helper()
	what := fmt.Sprint(" ", b, " with ", x, y)
	is := impl.IsBoard(b)
	knowsZeros(t, "DiagonalOf"+what, is && x >= 0 && x < b.Rows && y >= 0 && y < b.Columns, three(impl.DiagonalOf(b, x, y)))
	lists := [][]int{{x}, {x, y}, {x, y, -1}, {x, -1, -1, -1, y}, {-1, x, -1, -1, -1, y}}
	if !is {
		for _, list := range lists {
			fails(t, "BishopsOf"+what, both(impl.BishopsOf(b, 0, list))...)
		}
		fails(t, "CellOfColour"+what, three(impl.CellOfColour(b, 1, x, y))...)
		fails(t, "AreQuietBishops"+what, both(impl.AreQuietBishops(b, [][]int{{x, y}}))...)
		fails(t, "AreQuietKings"+what, both(impl.AreQuietKings(b, [][]int{{x, y}}))...)
		return
	}
	p := pictureOf(b)
	for _, colour := range []int{0, 1, x} {
		expectPlace(t, b, colour, x, y)
		for _, list := range lists {
			coloured := picture(nil)
			if colour == 0 || colour == 1 {
				coloured = colourPicture(p, colour)
			}
			knowsZeros(t, fmt.Sprint("BishopsOf ", colour, list, what), coloured != nil && isPlacing(coloured, list), both(impl.BishopsOf(b, colour, list)))
		}
	}
	for _, f := range listingCalls() {
		for _, cells := range [][][]int{{{x, y}}, {{x, y}, {y, x}}, {{0, 0}, {x, y}}, {{x, 0}, {0, y}}, {{x}, {y}}, {{x, y, 0}}, {{0, 0, x, y}}} {
			expectQuiet(t, f, b, cells)
		}
	}
}

// Lists far over any limit are no pieces, or end in a failure.
func TestBishopTotalLongLists(t *testing.T) {
	zeros, none, rising := make([]int, 100000), make([]int, 100000), make([]int, 100000)
	for i := range none {
		none[i], rising[i] = -1, i
	}
	full := must(impl.FullBoard(6, 6))
	same, empty, apart := make([][]int, 100000), make([][]int, 100000), make([][]int, 100000)
	for i := range same {
		same[i], apart[i] = []int{0, 0}, []int{2 * i, 0}
	}
	for _, f := range listingCalls() {
		for _, cells := range [][][]int{same, empty, apart, {zeros}, {none}, {rising}, {{0, 0}, zeros}, {rising, {0, 0}}} {
			if got, ok := f.quiet(full, cells); !ok || got {
				t.Errorf("%s in a long list: %v %v", f.of.name, got, ok)
			}
		}
	}
	for _, long := range [][]int{zeros, none, rising} {
		for colour := range 2 {
			fails(t, "BishopsOf a long list", both(impl.BishopsOf(full, colour, long))...)
		}
	}
	if got, ok := impl.BishopsOf(full, 0, none[:6]); !ok || len(got) != 0 {
		t.Error("BishopsOf six numbers:", got, ok)
	}
	fails(t, "BishopsOf seven numbers", both(impl.BishopsOf(full, 0, none[:7]))...)
}
