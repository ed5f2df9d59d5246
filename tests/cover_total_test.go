package tests

import (
	"fmt"
	"testing"

	"loop.example/g01125/impl"
)

// Promise 11 for chapter 6: no call panics, none modifies an argument, and failing calls return zeros.

// plainCoverCalls holds the calls of the functions that take a board alone, all of which succeed for the board 11/01.
func plainCoverCalls() []boardCall {
	return []boardCall{
		{"LargestPlacement", func(p *probe, b impl.Board) []any { return both(impl.LargestPlacement(p.board(b))) }},
		{"AllLargest", func(p *probe, b impl.Board) []any { return both(impl.AllLargest(p.board(b))) }},
		{"LeastCover", func(p *probe, b impl.Board) []any { return both(impl.LeastCover(p.board(b))) }},
		{"AllCovers", func(p *probe, b impl.Board) []any { return both(impl.AllCovers(p.board(b))) }},
		{"LackOf", func(p *probe, b impl.Board) []any { return both(impl.LackOf(p.board(b))) }},
		{"NeededCells", func(p *probe, b impl.Board) []any { return both(impl.NeededCells(p.board(b))) }},
		{"UselessCells", func(p *probe, b impl.Board) []any { return both(impl.UselessCells(p.board(b))) }},
	}
}

// refusingCall is a call of RefusingRows, which fails for the board 11/01.
func refusingCall() boardCall {
	return boardCall{"RefusingRows", func(p *probe, b impl.Board) []any { return both(impl.RefusingRows(p.board(b))) }}
}

// coverCall is a call of IsCover with lines.
func coverCall(rows, columns []int) boardCall {
	l := impl.Lines{Rows: rows, Columns: columns}
	return boardCall{fmt.Sprint("IsCover ", l), func(p *probe, b impl.Board) []any {
		return both(impl.IsCover(p.board(b), p.lines(l)))
	}}
}

// columnsCall is a call of ColumnsOf with rows.
func columnsCall(rows []int) boardCall {
	return boardCall{fmt.Sprint("ColumnsOf ", rows), func(p *probe, b impl.Board) []any {
		return both(impl.ColumnsOf(p.board(b), p.list(rows)))
	}}
}

// longerCall is a call of LongerWay with a list.
func longerCall(list []int) boardCall {
	return boardCall{fmt.Sprint("LongerWay ", list), func(p *probe, b impl.Board) []any {
		return both(impl.LongerWay(p.board(b), p.list(list)))
	}}
}

// followCall is a call of FollowWay with a list and a way.
func followCall(list, way []int) boardCall {
	return boardCall{fmt.Sprint("FollowWay ", list, way), func(p *probe, b impl.Board) []any {
		return both(impl.FollowWay(p.board(b), p.list(list), p.list(way)))
	}}
}

// coverCalls holds, for each function that takes a board, calls that succeed for the board 11/01.
func coverCalls() []boardCall {
	calls := plainCoverCalls()
	for _, rows := range [][]int{nil, {0}, {1}, {0, 1}} {
		calls = append(calls, columnsCall(rows), coverCall(rows, nil), coverCall(nil, rows), coverCall(rows, rows), coverCall(rows, []int{1}))
	}
	for _, list := range [][]int{{-1, -1}, {0, -1}, {1, -1}, {-1, 1}} {
		calls = append(calls, longerCall(list))
	}
	return append(calls,
		followCall([]int{-1, -1}, []int{0, 1}), followCall([]int{-1, -1}, []int{0, 0, 1, 1}), followCall([]int{0, -1}, []int{1, 1}),
		followCall([]int{1, -1}, []int{1, 1, 0, 0}), followCall([]int{-1, 1}, []int{0, 0, 0, 0, 0, 0, 0, 0, 0, 0, 0, 0}),
	)
}

func TestCoverTotalWrongBoards(t *testing.T) {
	checkWrongBoards(t, coverCalls())
	for _, b := range wrongBoards() {
		p := &probe{}
		what := fmt.Sprint("RefusingRows ", b)
		calm(t, what, func() { fails(t, what, refusingCall().call(p, b)...) })
		if p.changed() {
			t.Errorf("%s: an argument was modified", what)
		}
		// A list as long as Cells are, or as there are rows, is no placement on what is no board.
		for _, length := range []int{0, len(b.Cells), b.Rows} {
			if length >= 0 && length <= 64 {
				list := make([]int, length)
				for r := range list {
					list[r] = -1
				}
				fails(t, what, both(impl.LongerWay(b, list))...)
				fails(t, what, both(impl.FollowWay(b, list, []int{0, 0}))...)
			}
		}
		for _, list := range append(wrongLines(2), nil, []int{0}, []int{0, 1}) {
			fails(t, what, both(impl.ColumnsOf(b, list))...)
			fails(t, what, both(impl.IsCover(b, impl.Lines{Rows: list, Columns: list}))...)
			fails(t, what, both(impl.LongerWay(b, list))...)
			fails(t, what, both(impl.FollowWay(b, list, list))...)
		}
	}
}

// memoryBoards holds boards on which lists of all kinds are returned.
func memoryBoards() []impl.Board {
	list := append(boardsOfSize(2, 3), edgeBoards()...)
	for _, l := range limitBoards() {
		list = append(list, of(l.text))
	}
	return list
}

func TestCoverTotalMemory(t *testing.T) {
	checkCallMemory(t, append(coverCalls(), refusingCall()))
	for _, b := range memoryBoards() {
		for _, f := range append(plainCoverCalls(), refusingCall()) {
			checkMemory(t, fmt.Sprint(f.name, " ", b), func(p *probe) []any { return f.call(p, b) })
		}
	}
}

// Right arguments and wrong ones, for each function that takes more than a board.
func TestCoverTotalMemoryOfLists(t *testing.T) {
	for _, b := range append(largeBoards(), edgeBoards()...) {
		calls := []boardCall{coverCall([]int{0}, []int{1}), followCall(nil, nil)}
		for i, rows := range append(linesAmong(b.Rows), wrongLines(b.Rows)...) {
			if len(rows) < 64 && i%3 == 0 {
				calls = append(calls, columnsCall(rows), coverCall(rows, []int{0}), coverCall(nil, rows), coverCall([]int{0}, rows))
			}
		}
		for _, list := range wrongPlacings(b) {
			calls = append(calls, longerCall(list), followCall(list, []int{0, 0}), followCall(list, list))
		}
		for i, list := range someOf(b) {
			way := wayOf(pictureOf(b), list)
			if i%5 == 0 {
				calls = append(calls, longerCall(list), followCall(list, way), followCall(list, append([]int{0, 1, 2}, way...)))
			}
		}
		for _, f := range calls {
			checkMemory(t, fmt.Sprint(f.name, " ", b), func(p *probe) []any { return f.call(p, b) })
		}
	}
}

// The arguments of one call may be one memory.
func TestCoverTotalOneMemory(t *testing.T) {
	numbers := []int{1, 2}
	b := impl.Board{Rows: 2, Columns: 3, Cells: numbers} // 100/010
	if covered, ok := impl.IsCover(b, impl.Lines{Columns: numbers}); !ok || covered {
		t.Error("IsCover, Cells as columns:", covered, ok)
	}
	fails(t, "IsCover, Cells as rows", both(impl.IsCover(b, impl.Lines{Rows: numbers, Columns: numbers}))...)
	fails(t, "ColumnsOf Cells", both(impl.ColumnsOf(b, numbers))...)
	fails(t, "LongerWay, Cells as a placement", both(impl.LongerWay(b, numbers))...)
	fails(t, "FollowWay, Cells as a placement and a way", both(impl.FollowWay(b, numbers, numbers))...)
	if !sameList(numbers, []int{1, 2}) {
		t.Error("Cells are", numbers, "now")
	}
	lines := []int{0, 1}
	if covered, ok := impl.IsCover(b, impl.Lines{Rows: lines, Columns: lines}); !ok || !covered || !sameList(lines, []int{0, 1}) {
		t.Error("IsCover, rows as columns:", covered, ok, lines)
	}
	// A placement as its way: the row 1 loses its rook, and the row 0 gets the column 2.
	list := []int{1, -1, 0, 2}
	fails(t, "FollowWay, a placement as its way", both(impl.FollowWay(of("011/100/100/001"), list, list))...)
	if !sameList(list, []int{1, -1, 0, 2}) {
		t.Error("the placement is", list, "now")
	}
	// A way that lies behind the placement in one list.
	whole := []int{0, -1, 1, 0, 0, 1}
	if got, ok := impl.FollowWay(of("11/10"), whole[:2], whole[2:]); !ok || !sameList(got, []int{1, 0}) || !sameList(whole, []int{0, -1, 1, 0, 0, 1}) {
		t.Error("FollowWay, one list:", got, ok, whole)
	}
}

func TestCoverTotalStrangeNumbers(t *testing.T) {
	boards := append(append(largeBoards(), wrongBoards()...), of("11/01"), of("110/100/100"), of("01/00"))
	for _, b := range boards {
		for _, x := range strangeNumbers() {
			for _, y := range append(strangeNumbers(), 2, 3, 4) {
				calm(t, fmt.Sprint(b, " with ", x, y), func() { strangeCover(t, b, x, y) })
			}
		}
	}
}

// strangeCover makes the calls that take lists, with two numbers.
func strangeCover(t *testing.T, b impl.Board, x, y int) {
	t.Helper()
	what := fmt.Sprint(" ", b, " with ", x, y)
	is := impl.IsBoard(b)
	rowX, rowY := x >= 0 && x < b.Rows, y >= 0 && y < b.Rows
	columnX, columnY := x >= 0 && x < b.Columns, y >= 0 && y < b.Columns
	knowsZeros(t, "ColumnsOf one"+what, is && rowX, both(impl.ColumnsOf(b, []int{x})))
	knowsZeros(t, "ColumnsOf two"+what, is && rowX && rowY && x < y, both(impl.ColumnsOf(b, []int{x, y})))
	knowsZeros(t, "IsCover rows"+what, is && rowX && rowY && x < y, both(impl.IsCover(b, impl.Lines{Rows: []int{x, y}})))
	knowsZeros(t, "IsCover columns"+what, is && columnX && columnY && x < y, both(impl.IsCover(b, impl.Lines{Columns: []int{x, y}})))
	knowsZeros(t, "IsCover both"+what, is && rowX && columnY, both(impl.IsCover(b, impl.Lines{Rows: []int{x}, Columns: []int{y}})))
	if !is {
		fails(t, "LongerWay"+what, both(impl.LongerWay(b, []int{x, y}))...)
		fails(t, "FollowWay"+what, both(impl.FollowWay(b, []int{-1, -1}, []int{x, y}))...)
		return
	}
	p := pictureOf(b)
	for _, list := range [][]int{{x}, {x, y}, {x, y, -1}, {x, -1, -1, -1, -1, y}} {
		// Where the list is a placement, wayOf tells whether there is a way.
		way := isPlacing(p, list) && wayOf(p, list) != nil
		knowsZeros(t, fmt.Sprint("LongerWay ", list, what), way, both(impl.LongerWay(b, list)))
		expectFollowed(t, b, list, []int{0, 0})
	}
	none := make([]int, b.Rows)
	for r := range none {
		none[r] = -1
	}
	for _, way := range [][]int{{x}, {x, y}, {x, y, x, y}, {0, x, 0, y}, {x, 0, y, 1}, {x, y, x}, {0, 0, x, y}, {0, x, x, 0, y, 1, 1, y, 0, 0, 0, 1}} {
		expectFollowed(t, b, none, way)
	}
}

// Lists far over any limit end in a failure.
func TestCoverTotalLongLists(t *testing.T) {
	none, rising, pairs := make([]int, 100000), make([]int, 100000), make([]int, 100000)
	for i := range none {
		none[i], rising[i] = -1, i
	}
	full := must(impl.FullBoard(6, 6))
	right := none[:6]
	for _, long := range [][]int{none, rising, pairs} {
		fails(t, "IsCover, many rows", both(impl.IsCover(full, impl.Lines{Rows: long}))...)
		fails(t, "IsCover, many columns", both(impl.IsCover(full, impl.Lines{Columns: long}))...)
		fails(t, "ColumnsOf many rows", both(impl.ColumnsOf(full, long))...)
		fails(t, "LongerWay, a long list", both(impl.LongerWay(full, long))...)
		fails(t, "FollowWay, a long list", both(impl.FollowWay(full, long, []int{0, 0}))...)
		fails(t, "FollowWay, a long way", both(impl.FollowWay(full, right, long))...)
	}
	if got, ok := impl.FollowWay(full, right, pairs[:12]); !ok || !sameList(got, []int{0, -1, -1, -1, -1, -1}) {
		t.Error("FollowWay, twelve numbers:", got, ok)
	}
	fails(t, "FollowWay, fourteen numbers", both(impl.FollowWay(full, right, pairs[:14]))...)
}
