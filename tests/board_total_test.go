package tests

import (
	"fmt"
	"math"
	"strings"
	"testing"

	"loop.example/g01125/impl"
)

// Promise 11 for chapter 1: no call panics, none modifies an argument, and failing calls return zeros.

// boardCalls holds, for each function that takes a board, calls that need nothing but a right board of 2 rows and 2 columns.
func boardCalls() []boardCall {
	other := of("10/01")
	return []boardCall{
		{"CellsOf", func(p *probe, b impl.Board) []any { return both(impl.CellsOf(p.board(b))) }},
		{"CountCells", func(p *probe, b impl.Board) []any { return both(impl.CountCells(p.board(b))) }},
		{"HasCell", func(p *probe, b impl.Board) []any { return both(impl.HasCell(p.board(b), 0, 0)) }},
		{"PutCell on", func(p *probe, b impl.Board) []any { return both(impl.PutCell(p.board(b), 0, 0, true)) }},
		{"PutCell off", func(p *probe, b impl.Board) []any { return both(impl.PutCell(p.board(b), 0, 0, false)) }},
		{"StrikeCell", func(p *probe, b impl.Board) []any { return both(impl.StrikeCell(p.board(b), 0, 0)) }},
		{"ComplementOf", func(p *probe, b impl.Board) []any { return both(impl.ComplementOf(p.board(b))) }},
		{"TurnBoard", func(p *probe, b impl.Board) []any { return both(impl.TurnBoard(p.board(b))) }},
		{"MirrorBoard", func(p *probe, b impl.Board) []any { return both(impl.MirrorBoard(p.board(b))) }},
		{"OrderRows", func(p *probe, b impl.Board) []any {
			return both(impl.OrderRows(p.board(b), p.list([]int{1, 0})))
		}},
		{"OrderRows as it is", func(p *probe, b impl.Board) []any {
			return both(impl.OrderRows(p.board(b), p.list([]int{0, 1})))
		}},
		{"UnionOf first", func(p *probe, b impl.Board) []any { return both(impl.UnionOf(p.board(b), p.board(other))) }},
		{"UnionOf second", func(p *probe, b impl.Board) []any { return both(impl.UnionOf(p.board(other), p.board(b))) }},
		{"MeetOf first", func(p *probe, b impl.Board) []any { return both(impl.MeetOf(p.board(b), p.board(other))) }},
		{"MeetOf second", func(p *probe, b impl.Board) []any { return both(impl.MeetOf(p.board(other), p.board(b))) }},
		{"IsPartOf first", func(p *probe, b impl.Board) []any { return both(impl.IsPartOf(p.board(b), p.board(other))) }},
		{"IsPartOf second", func(p *probe, b impl.Board) []any { return both(impl.IsPartOf(p.board(other), p.board(b))) }},
		{"StackBoards first", func(p *probe, b impl.Board) []any { return both(impl.StackBoards(p.board(b), p.board(other))) }},
		{"StackBoards second", func(p *probe, b impl.Board) []any { return both(impl.StackBoards(p.board(other), p.board(b))) }},
		{"RowCounts", func(p *probe, b impl.Board) []any { return both(impl.RowCounts(p.board(b))) }},
		{"BoardText", func(p *probe, b impl.Board) []any { return both(impl.BoardText(p.board(b))) }},
	}
}

func TestTotalWrongBoards(t *testing.T) {
	checkWrongBoards(t, boardCalls())
	for _, b := range wrongBoards() {
		p := &probe{}
		calm(t, "IsBoard", func() {
			if impl.IsBoard(p.board(b)) {
				t.Errorf("IsBoard %v, with numbers behind Cells", b)
			}
		})
		if p.changed() {
			t.Error("IsBoard: an argument was modified")
		}
	}
}

// Two wrong boards of one size fail as one does, and so do wrong boards that are alike.
func TestTotalTwoWrongBoards(t *testing.T) {
	for _, b := range wrongBoards() {
		fails(t, "UnionOf", both(impl.UnionOf(b, b))...)
		fails(t, "MeetOf", both(impl.MeetOf(b, b))...)
		fails(t, "IsPartOf", both(impl.IsPartOf(b, b))...)
		fails(t, "StackBoards", both(impl.StackBoards(b, b))...)
	}
}

func TestTotalMemoryOfBoardCalls(t *testing.T) {
	checkCallMemory(t, boardCalls())
}

func TestTotalMemoryOfOthers(t *testing.T) {
	for _, b := range largeBoards() {
		cells := pictureOf(b).cells()
		checkMemory(t, "FromCells", func(p *probe) []any { return both(impl.FromCells(b.Rows, b.Columns, p.nested(cells))) })
		checkMemory(t, "FullBoard", func(p *probe) []any { return both(impl.FullBoard(b.Rows, b.Columns)) })
		checkMemory(t, "ParseBoard", func(p *probe) []any { return both(impl.ParseBoard(pictureOf(b).text())) })
		checkMemory(t, "IsBoard", func(p *probe) []any { return []any{impl.IsBoard(p.board(b))} })
		for _, order := range orders(b.Rows) {
			checkMemory(t, "OrderRows", func(p *probe) []any { return both(impl.OrderRows(p.board(b), p.list(order))) })
		}
		checkMemory(t, "one board twice", func(p *probe) []any {
			same := p.board(b)
			u, _ := impl.UnionOf(same, same)
			m, _ := impl.MeetOf(same, same)
			return []any{u, m}
		})
		checkMemory(t, "StackBoards of one board twice", func(p *probe) []any {
			same := p.board(b)
			return both(impl.StackBoards(same, same))
		})
	}
	wrong := [][][]int{nil, {{0, 0}, {0, 0}}, {{0, 0}, {9, 9}}, {{0}}, {{1, 1, 1}}}
	for _, cells := range wrong {
		checkMemory(t, "FromCells, wrong cells", func(p *probe) []any { return both(impl.FromCells(2, 2, p.nested(cells))) })
	}
}

// strangeNumbers holds numbers at which shifts, sums and indices go wrong.
func strangeNumbers() []int {
	return []int{math.MinInt, math.MinInt + 1, -64, -2, -1, 0, 1, 5, 6, 7, 62, 63, 64, 65, 1 << 32, math.MaxInt - 1, math.MaxInt}
}

func TestTotalStrangeNumbers(t *testing.T) {
	boards := append(largeBoards(), wrongBoards()...)
	for _, x := range strangeNumbers() {
		for _, y := range strangeNumbers() {
			calm(t, fmt.Sprint("with ", x, y), func() {
				fullOrZero(t, x, y)
				for _, b := range boards {
					inside := impl.IsBoard(b) && x >= 0 && x < b.Rows && y >= 0 && y < b.Columns
					has, okHas := impl.HasCell(b, x, y)
					on, okOn := impl.PutCell(b, x, y, true)
					off, okOff := impl.PutCell(b, x, y, false)
					struck, okStruck := impl.StrikeCell(b, x, y)
					if okHas != inside || okOn != inside || okOff != inside || okStruck != (inside && b.Rows > 1 && b.Columns > 1) {
						t.Errorf("%v at %d %d: %v %v %v %v", b, x, y, okHas, okOn, okOff, okStruck)
					}
					if !inside {
						fails(t, fmt.Sprint(b, " at ", x, y), has, on, off, struck)
					}
				}
			})
		}
	}
}

// fullOrZero checks the functions that take sizes alone.
func fullOrZero(t *testing.T, x, y int) {
	t.Helper()
	fine := x >= 1 && x <= 6 && y >= 1 && y <= 6
	full, okFull := impl.FullBoard(x, y)
	empty, okEmpty := impl.FromCells(x, y, nil)
	one, okOne := impl.FromCells(x, y, [][]int{{0, 0}})
	if okFull != fine || okEmpty != fine || okOne != fine {
		t.Errorf("sizes %d %d: %v %v %v", x, y, okFull, okEmpty, okOne)
	}
	if !fine {
		fails(t, fmt.Sprint("sizes ", x, y), full, empty, one)
	}
	fails(t, "a strange cell", both(impl.FromCells(6, 6, [][]int{{x, y}, {x, y}}))...)
	fails(t, "a strange cell behind", both(impl.FromCells(6, 6, [][]int{{5, 5}, {x, y}, {5, 5}}))...)
	fails(t, "a strange order", both(impl.OrderRows(of("1/0/1"), []int{x, y}))...)
	fails(t, "a strange order", both(impl.OrderRows(of("1/0/1/1/0/0"), []int{x, y, x, 0, 1, 2}))...)
}

func TestTotalStrangeTexts(t *testing.T) {
	for letter := 0; letter < 256; letter++ {
		one := string([]byte{byte(letter)})
		for _, s := range []string{one, "1" + one, one + "1", "10/0" + one, strings.Repeat(one, 7), strings.Repeat(one, 41), strings.Repeat(one, 5000)} {
			calm(t, fmt.Sprintf("ParseBoard %q", s), func() {
				b, ok := impl.ParseBoard(s)
				if !ok {
					fails(t, fmt.Sprintf("ParseBoard %q", s), b, ok)
				} else if text, _ := impl.BoardText(b); text != s {
					t.Errorf("ParseBoard %q has the text %q", s, text)
				}
			})
		}
	}
}

// TestTotalLongLists checks that lists far over any limit end in a failure.
func TestTotalLongLists(t *testing.T) {
	long := make([]int, 100000)
	for i := range long {
		long[i] = i
	}
	var cells [][]int
	for i := range long {
		cells = append(cells, []int{i % 6, i / 6 % 6})
	}
	fails(t, "OrderRows, a long order", both(impl.OrderRows(of("1/0"), long))...)
	fails(t, "FromCells, many cells", both(impl.FromCells(6, 6, cells))...)
	fails(t, "FromCells, a long cell", both(impl.FromCells(6, 6, [][]int{long}))...)
	got, ok := impl.FromCells(6, 6, cells[:36])
	expectBoard(t, "FromCells, all cells", must(impl.FullBoard(6, 6)), got, ok)
	if impl.IsBoard(impl.Board{Rows: 6, Columns: 6, Cells: long}) {
		t.Error("IsBoard, long Cells")
	}
}
