package tests

import (
	"fmt"
	"strings"
	"testing"

	"loop.example/g01125/impl"
)

// Promise 1, function by function: each result is held against the tests' own pictures.

func TestBoardIsBoard(t *testing.T) {
	for _, b := range sampleBoards() {
		if !impl.IsBoard(b) {
			t.Errorf("%v is a board", b)
		}
	}
	for _, b := range wrongBoards() {
		if impl.IsBoard(b) {
			t.Errorf("%v is no board", b)
		}
	}
	// Each size has its own greatest row.
	for columns := 1; columns <= impl.MaxSide; columns++ {
		top := impl.Board{Rows: 1, Columns: columns, Cells: []int{1<<columns - 1}}
		over := impl.Board{Rows: 1, Columns: columns, Cells: []int{1 << columns}}
		if !impl.IsBoard(top) || impl.IsBoard(over) {
			t.Errorf("greatest row of %d columns", columns)
		}
	}
}

func TestBoardFullBoard(t *testing.T) {
	for rows := -1; rows <= impl.MaxSide+1; rows++ {
		for columns := -1; columns <= impl.MaxSide+1; columns++ {
			b, ok := impl.FullBoard(rows, columns)
			what := fmt.Sprint("FullBoard ", rows, columns)
			if rows < 1 || rows > 6 || columns < 1 || columns > 6 {
				fails(t, what, b, ok)
				continue
			}
			all := draw(rows, columns, func(r, c int) bool { return true })
			expectBoard(t, what, all.board(), b, ok)
		}
	}
	for _, n := range wrongSides() {
		fails(t, "FullBoard, wrong rows", both(impl.FullBoard(n, 1))...)
		fails(t, "FullBoard, wrong columns", both(impl.FullBoard(1, n))...)
	}
}

func TestBoardCellsOf(t *testing.T) {
	for _, b := range sampleBoards() {
		got, ok := impl.CellsOf(b)
		if want := pictureOf(b).cells(); !ok || !sameLists(got, want) {
			t.Errorf("CellsOf %v: %v %v instead of %v", b, got, ok, want)
		}
	}
	got, ok := impl.CellsOf(of("110/011"))
	if !ok || !sameLists(got, [][]int{{0, 0}, {0, 1}, {1, 1}, {1, 2}}) {
		t.Error("CellsOf 110/011:", got, ok)
	}
}

func TestBoardFromCells(t *testing.T) {
	for _, b := range sampleBoards() {
		cells := pictureOf(b).cells()
		var backwards, swapped [][]int
		for i := range cells {
			backwards = append(backwards, cells[len(cells)-1-i])
		}
		for i := range cells {
			swapped = append(swapped, cells[(i+1)%len(cells)])
		}
		for _, list := range [][][]int{cells, backwards, swapped} {
			got, ok := impl.FromCells(b.Rows, b.Columns, list)
			expectBoard(t, fmt.Sprint("FromCells ", list), b, got, ok)
		}
	}
	for _, none := range [][][]int{nil, {}} {
		got, ok := impl.FromCells(2, 3, none)
		expectBoard(t, "FromCells of none", of("000/000"), got, ok)
	}
}

func TestBoardFromCellsInvalid(t *testing.T) {
	for _, n := range wrongSides() {
		fails(t, "FromCells, wrong rows", both(impl.FromCells(n, 1, nil))...)
		fails(t, "FromCells, wrong columns", both(impl.FromCells(1, n, nil))...)
		fails(t, "FromCells, wrong rows", both(impl.FromCells(n, 1, [][]int{{0, 0}}))...)
		fails(t, "FromCells, wrong columns", both(impl.FromCells(1, n, [][]int{{0, 0}}))...)
	}
	for _, r := range wrongIndices(2) {
		fails(t, "FromCells, row out of it", both(impl.FromCells(2, 3, [][]int{{0, 0}, {r, 0}}))...)
	}
	for _, c := range wrongIndices(3) {
		fails(t, "FromCells, column out of it", both(impl.FromCells(2, 3, [][]int{{0, 0}, {0, c}}))...)
	}
	for _, none := range [][]int{nil, {}, {1}, {1, 1, 1}, {1, 1, 0, 0}, []int{1, 1, 1}[:1]} {
		fails(t, "FromCells, no cell", both(impl.FromCells(2, 3, [][]int{none}))...)
		fails(t, "FromCells, no cell behind one", both(impl.FromCells(2, 3, [][]int{{0, 0}, none}))...)
	}
	twice := [][][]int{
		{{0, 0}, {0, 0}},
		{{1, 2}, {0, 1}, {1, 2}},
		{{0, 2}, {0, 1}, {0, 0}, {1, 0}, {1, 1}, {1, 2}, {0, 2}},
	}
	for _, cells := range twice {
		fails(t, "FromCells, a cell told twice", both(impl.FromCells(2, 3, cells))...)
	}
}

func TestBoardCounts(t *testing.T) {
	for _, b := range sampleBoards() {
		total := 0
		var each []int
		for _, row := range pictureOf(b) {
			n := 0
			for _, on := range row {
				if on {
					n++
				}
			}
			each = append(each, n)
			total += n
		}
		if n, ok := impl.CountCells(b); !ok || n != total {
			t.Errorf("CountCells %v: %d %v instead of %d", b, n, ok, total)
		}
		if list, ok := impl.RowCounts(b); !ok || !sameList(list, each) {
			t.Errorf("RowCounts %v: %v %v instead of %v", b, list, ok, each)
		}
	}
}

func TestBoardHasCell(t *testing.T) {
	for _, b := range sampleBoards() {
		p := pictureOf(b)
		for r := range p {
			for c := range p[r] {
				if on, ok := impl.HasCell(b, r, c); !ok || on != p[r][c] {
					t.Errorf("HasCell %v %d %d: %v %v", b, r, c, on, ok)
				}
			}
		}
		for _, r := range wrongIndices(b.Rows) {
			fails(t, "HasCell, wrong row", both(impl.HasCell(b, r, 0))...)
		}
		for _, c := range wrongIndices(b.Columns) {
			fails(t, "HasCell, wrong column", both(impl.HasCell(b, 0, c))...)
		}
	}
}

func TestBoardPutCell(t *testing.T) {
	for _, b := range sampleBoards() {
		p := pictureOf(b)
		for r := range p {
			for c := range p[r] {
				for _, on := range []bool{false, true} {
					want := draw(b.Rows, b.Columns, func(i, j int) bool {
						return i == r && j == c && on || (i != r || j != c) && p[i][j]
					})
					got, ok := impl.PutCell(b, r, c, on)
					expectBoard(t, fmt.Sprint("PutCell ", b, r, c, on), want.board(), got, ok)
				}
			}
		}
		for _, on := range []bool{false, true} {
			for _, r := range wrongIndices(b.Rows) {
				fails(t, "PutCell, wrong row", both(impl.PutCell(b, r, 0, on))...)
			}
			for _, c := range wrongIndices(b.Columns) {
				fails(t, "PutCell, wrong column", both(impl.PutCell(b, 0, c, on))...)
			}
		}
	}
}

func TestBoardStrikeCell(t *testing.T) {
	for _, b := range sampleBoards() {
		p := pictureOf(b)
		for r := range p {
			for c := range p[r] {
				got, ok := impl.StrikeCell(b, r, c)
				what := fmt.Sprint("StrikeCell ", b, r, c)
				if b.Rows == 1 || b.Columns == 1 {
					fails(t, what, got, ok)
					continue
				}
				expectBoard(t, what, without(p, r, c).board(), got, ok)
			}
		}
		for _, r := range wrongIndices(b.Rows) {
			fails(t, "StrikeCell, wrong row", both(impl.StrikeCell(b, r, 0))...)
		}
		for _, c := range wrongIndices(b.Columns) {
			fails(t, "StrikeCell, wrong column", both(impl.StrikeCell(b, 0, c))...)
		}
	}
	got, ok := impl.StrikeCell(of("110/011"), 0, 1)
	expectBoard(t, "StrikeCell of the example", of("01"), got, ok)
}

// without is a picture with one row and one column left out.
func without(p picture, row, column int) picture {
	var q picture
	for r := range p {
		if r == row {
			continue
		}
		line := append([]bool{}, p[r][:column]...)
		q = append(q, append(line, p[r][column+1:]...))
	}
	return q
}

func TestBoardTurns(t *testing.T) {
	for _, b := range sampleBoards() {
		p := pictureOf(b)
		not := draw(b.Rows, b.Columns, func(r, c int) bool { return !p[r][c] })
		turned := draw(b.Columns, b.Rows, func(r, c int) bool { return p[c][r] })
		mirrored := draw(b.Rows, b.Columns, func(r, c int) bool { return p[r][b.Columns-1-c] })
		got, ok := impl.ComplementOf(b)
		expectBoard(t, fmt.Sprint("ComplementOf ", b), not.board(), got, ok)
		got, ok = impl.TurnBoard(b)
		expectBoard(t, fmt.Sprint("TurnBoard ", b), turned.board(), got, ok)
		got, ok = impl.MirrorBoard(b)
		expectBoard(t, fmt.Sprint("MirrorBoard ", b), mirrored.board(), got, ok)
	}
	got, ok := impl.ComplementOf(of("110/011"))
	expectBoard(t, "ComplementOf the example", of("001/100"), got, ok)
}

// orders lists all orders of n things.
func orders(n int) [][]int {
	if n == 0 {
		return [][]int{{}}
	}
	var list [][]int
	for _, o := range orders(n - 1) {
		for i := 0; i <= len(o); i++ {
			longer := append([]int{}, o[:i]...)
			longer = append(longer, n-1)
			list = append(list, append(longer, o[i:]...))
		}
	}
	return list
}

func TestBoardOrderRows(t *testing.T) {
	for _, b := range sampleBoards() {
		for _, order := range orders(b.Rows) {
			want := impl.Board{Rows: b.Rows, Columns: b.Columns}
			for _, r := range order {
				want.Cells = append(want.Cells, b.Cells[r])
			}
			got, ok := impl.OrderRows(b, order)
			expectBoard(t, fmt.Sprint("OrderRows ", b, order), want, got, ok)
		}
	}
	// Three rows in a circle tell the order from its inverse.
	got, ok := impl.OrderRows(of("100/010/001"), []int{1, 2, 0})
	expectBoard(t, "OrderRows in a circle", of("010/001/100"), got, ok)
}

func TestBoardOrderRowsInvalid(t *testing.T) {
	b := of("110/011/101")
	wrong := [][]int{
		nil, {}, {0}, {0, 1}, {0, 1, 2, 3}, {0, 1, 2, 2}, {0, 1, 2, 0}, {0, 0, 1}, {0, 1, 1}, {2, 2, 2}, {1, 2, 3}, {0, 1, 3},
		{0, 1, -1}, {-1, 0, 1}, {0, 1, 5}, {0, 1, 6}, {0, 1, 64}, {0, 1, 1 << 62}, {0, -1 << 63, 1}, {0, 1, 2, 3, 4, 5, 6}, []int{0, 1, 2}[:2],
	}
	for _, order := range wrong {
		fails(t, fmt.Sprint("OrderRows ", order), both(impl.OrderRows(b, order))...)
	}
	fails(t, "OrderRows of six rows", both(impl.OrderRows(of("1/0/1/0/1/0"), []int{0, 1, 2, 3, 4, 6}))...)
	fails(t, "OrderRows of one row", both(impl.OrderRows(of("10"), []int{1}))...)
}

// pairs lists pairs of boards: all of some small sizes, with others of the same size and of other sizes, and large ones.
func pairs() [][2]impl.Board {
	var list [][2]impl.Board
	var small []impl.Board
	for _, size := range [][2]int{{1, 1}, {1, 2}, {2, 1}, {2, 2}, {1, 3}, {3, 1}} {
		small = append(small, boardsOfSize(size[0], size[1])...)
	}
	large := largeBoards()
	for i, a := range small {
		for _, b := range small {
			list = append(list, [2]impl.Board{a, b})
		}
		b := large[i%len(large)]
		list = append(list, [2]impl.Board{a, b}, [2]impl.Board{b, a})
	}
	for _, a := range large {
		for _, b := range large {
			list = append(list, [2]impl.Board{a, b})
		}
	}
	return list
}

func TestBoardUnionAndMeet(t *testing.T) {
	for _, pair := range pairs() {
		a, b := pair[0], pair[1]
		u, fineU := impl.UnionOf(a, b)
		m, fineM := impl.MeetOf(a, b)
		part, fineP := impl.IsPartOf(a, b)
		if a.Rows != b.Rows || a.Columns != b.Columns {
			fails(t, fmt.Sprint("UnionOf ", pair), u, fineU)
			fails(t, fmt.Sprint("MeetOf ", pair), m, fineM)
			if part || !fineP {
				t.Errorf("IsPartOf %v: %v %v for boards that do not fit", pair, part, fineP)
			}
			continue
		}
		p, q := pictureOf(a), pictureOf(b)
		either := draw(a.Rows, a.Columns, func(r, c int) bool { return p[r][c] || q[r][c] })
		each := draw(a.Rows, a.Columns, func(r, c int) bool { return p[r][c] && q[r][c] })
		expectBoard(t, fmt.Sprint("UnionOf ", pair), either.board(), u, fineU)
		expectBoard(t, fmt.Sprint("MeetOf ", pair), each.board(), m, fineM)
		if want := each.text() == p.text(); part != want || !fineP {
			t.Errorf("IsPartOf %v: %v %v instead of %v", pair, part, fineP, want)
		}
	}
}

func TestBoardStackBoards(t *testing.T) {
	for _, pair := range pairs() {
		a, b := pair[0], pair[1]
		got, ok := impl.StackBoards(a, b)
		what := fmt.Sprint("StackBoards ", pair)
		if a.Rows+b.Rows > 6 || a.Columns+b.Columns > 6 {
			fails(t, what, got, ok)
			continue
		}
		p, q := pictureOf(a), pictureOf(b)
		want := draw(a.Rows+b.Rows, a.Columns+b.Columns, func(r, c int) bool {
			if r < a.Rows {
				return c < a.Columns && p[r][c]
			}
			return c >= a.Columns && q[r-a.Rows][c-a.Columns]
		})
		expectBoard(t, what, want.board(), got, ok)
	}
}

// The limits of a stack may be met exactly, by rows and by columns alike.
func TestBoardStackBoardsLimits(t *testing.T) {
	for rows := 1; rows <= 6; rows++ {
		for columns := 1; columns <= 6; columns++ {
			a := must(impl.FullBoard(rows, columns))
			b := of("111/111/111")
			got, ok := impl.StackBoards(a, b)
			if ok != (rows <= 3 && columns <= 3) {
				t.Errorf("StackBoards of %d and 3 rows, %d and 3 columns: %v", rows, columns, ok)
			}
			if !ok {
				fails(t, "StackBoards", got, ok)
			}
		}
	}
}

func TestBoardTexts(t *testing.T) {
	for _, b := range sampleBoards() {
		want := pictureOf(b).text()
		if s, ok := impl.BoardText(b); !ok || s != want {
			t.Errorf("BoardText %v: %q %v instead of %q", b, s, ok, want)
		}
		got, ok := impl.ParseBoard(want)
		expectBoard(t, "ParseBoard "+want, b, got, ok)
	}
}

func TestBoardParseBoardInvalid(t *testing.T) {
	wrong := []string{
		"", "/", "//", "1/", "/1", "1//1", "10/1", "1/10", "110/01", "11/011", "2", "12", "1 0", " 1", "1 ", "1\n", "1\x00", "1/a", "-1", "+1",
		"1111111", "0000000", "1/1/1/1/1/1/1", "0/0/0/0/0/0/0", "111111/111111/111111/111111/111111/111111/",
		"111111/111111/111111/111111/111111/111111/111111", "1,0", "1|0", "10\\01", "１", "1/\xff", ".",
		strings.Repeat("1", 64), strings.Repeat("/", 64), strings.Repeat("1/", 3000), strings.Repeat("1", 100000),
	}
	for _, s := range wrong {
		fails(t, fmt.Sprintf("ParseBoard %q", s), both(impl.ParseBoard(s))...)
	}
}

// All short texts of the letters of a BoardText and of two others are parsed just when a board has them.
func TestBoardParseBoardShort(t *testing.T) {
	texts := map[string]impl.Board{}
	for rows := 1; rows <= 3; rows++ {
		for columns := 1; columns <= 5; columns++ {
			if rows*(columns+1)-1 <= 5 {
				for _, b := range boardsOfSize(rows, columns) {
					texts[pictureOf(b).text()] = b
				}
			}
		}
	}
	level := []string{""}
	for length := 0; length <= 5; length++ {
		var longer []string
		for _, s := range level {
			got, ok := impl.ParseBoard(s)
			if want, is := texts[s]; is {
				expectBoard(t, "ParseBoard "+s, want, got, ok)
			} else {
				fails(t, fmt.Sprintf("ParseBoard %q", s), got, ok)
			}
			for _, letter := range []string{"0", "1", "/", "2", " "} {
				longer = append(longer, s+letter)
			}
		}
		level = longer
	}
}
