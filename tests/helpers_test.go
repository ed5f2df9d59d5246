package tests

import (
	"math"
	"reflect"
	"testing"

	"loop.example/g01125/impl"
)

// picture is the tests' own model of a board: at[r][c] tells whether there is a cell.
type picture [][]bool

// draw makes a picture of a size from a rule.
func draw(rows, columns int, rule func(r, c int) bool) picture {
	p := make(picture, rows)
	for r := range p {
		p[r] = make([]bool, columns)
		for c := range p[r] {
			p[r][c] = rule(r, c)
		}
	}
	return p
}

// pictureOf divides the numbers in Cells by two, so that it shares no code with the program.
func pictureOf(b impl.Board) picture {
	return draw(b.Rows, b.Columns, func(r, c int) bool {
		x := b.Cells[r]
		for ; c > 0; c-- {
			x /= 2
		}
		return x%2 == 1
	})
}

// board is the Board that a picture shows.
func (p picture) board() impl.Board {
	b := impl.Board{Rows: len(p), Columns: len(p[0])}
	for _, row := range p {
		sum, power := 0, 1
		for _, on := range row {
			if on {
				sum += power
			}
			power *= 2
		}
		b.Cells = append(b.Cells, sum)
	}
	return b
}

// text is the BoardText of a picture.
func (p picture) text() string {
	s := ""
	for r, row := range p {
		if r > 0 {
			s += "/"
		}
		for _, on := range row {
			if on {
				s += "1"
			} else {
				s += "0"
			}
		}
	}
	return s
}

// cells lists the cells of a picture, ordered by rows and then by columns.
func (p picture) cells() [][]int {
	var list [][]int
	for r, row := range p {
		for c, on := range row {
			if on {
				list = append(list, []int{r, c})
			}
		}
	}
	return list
}

// of makes the board of a text that the test writes itself, without the program.
func of(text string) impl.Board {
	var p picture
	row := []bool{}
	for i := 0; i < len(text); i++ {
		if text[i] == '/' {
			p = append(p, row)
			row = []bool{}
		} else {
			row = append(row, text[i] == '1')
		}
	}
	return append(p, row).board()
}

func sameBoard(a, b impl.Board) bool {
	return a.Rows == b.Rows && a.Columns == b.Columns && sameList(a.Cells, b.Cells)
}

func sameList(a, b []int) bool {
	if len(a) != len(b) {
		return false
	}
	for i := range a {
		if a[i] != b[i] {
			return false
		}
	}
	return true
}

func sameLists(a, b [][]int) bool {
	if len(a) != len(b) {
		return false
	}
	for i := range a {
		if !sameList(a[i], b[i]) {
			return false
		}
	}
	return true
}

// boardsOfSize lists all boards of a size.
func boardsOfSize(rows, columns int) []impl.Board {
	var list []impl.Board
	for number := 0; number < 1<<(rows*columns); number++ {
		list = append(list, draw(rows, columns, func(r, c int) bool {
			return number>>(r*columns+c)&1 == 1
		}).board())
	}
	return list
}

// largeBoards holds boards of the greatest sizes, full ones, ones without cells and ones without any symmetry.
func largeBoards() []impl.Board {
	return []impl.Board{
		of("1"), of("0"),
		of("000000"), of("111111"), of("100000"), of("000001"), of("110100"),
		of("0/0/0/0/0/0"), of("1/1/1/1/1/1"), of("1/0/0/0/0/0"), of("0/0/0/0/0/1"), of("1/1/0/1/0/0"),
		of("000000/000000/000000/000000/000000/000000"),
		of("111111/111111/111111/111111/111111/111111"),
		of("110100/011010/001101/100110/010011/111000"),
		of("100000/110000/111000/111100/111110/111111"),
		of("000001/000000/000000/000000/000000/000000"),
		of("10110/01101/11100/00011/10001/01010"),
		of("101100/011011/111001/000111/100010"),
		of("1011/0110"), of("10/01/11/10/00"),
	}
}

// sampleBoards holds all boards of at most three rows and columns, and the large ones.
func sampleBoards() []impl.Board {
	var list []impl.Board
	for rows := 1; rows <= 3; rows++ {
		for columns := 1; columns <= 3; columns++ {
			list = append(list, boardsOfSize(rows, columns)...)
		}
	}
	return append(list, largeBoards()...)
}

// wrongBoards holds values that are no boards, each for one reason.
func wrongBoards() []impl.Board {
	return []impl.Board{
		{},
		{Rows: 0, Columns: 2, Cells: nil},
		{Rows: 0, Columns: 2, Cells: []int{0}},
		{Rows: 1, Columns: 0, Cells: []int{0}},
		{Rows: -1, Columns: 2, Cells: nil},
		{Rows: 2, Columns: -1, Cells: []int{0, 0}},
		{Rows: 7, Columns: 2, Cells: []int{0, 0, 0, 0, 0, 0, 0}},
		{Rows: 2, Columns: 7, Cells: []int{0, 0}},
		{Rows: math.MaxInt, Columns: 2, Cells: []int{0, 0}},
		{Rows: 2, Columns: math.MaxInt, Cells: []int{0, 0}},
		{Rows: math.MinInt, Columns: math.MinInt, Cells: []int{0}},
		{Rows: 2, Columns: 64, Cells: []int{0, 0}},
		{Rows: 2, Columns: 2, Cells: nil},
		{Rows: 2, Columns: 2, Cells: []int{}},
		{Rows: 2, Columns: 2, Cells: []int{1}},
		{Rows: 2, Columns: 2, Cells: []int{1, 2, 3}},
		{Rows: 2, Columns: 2, Cells: []int{1, 2, 3}[:1]},
		{Rows: 2, Columns: 2, Cells: []int{4, 0}},
		{Rows: 2, Columns: 2, Cells: []int{0, 4}},
		{Rows: 2, Columns: 2, Cells: []int{0, -1}},
		{Rows: 2, Columns: 2, Cells: []int{-4, 0}},
		{Rows: 2, Columns: 2, Cells: []int{math.MinInt, 0}},
		{Rows: 2, Columns: 2, Cells: []int{0, math.MaxInt}},
		{Rows: 1, Columns: 1, Cells: []int{2}},
		{Rows: 6, Columns: 6, Cells: []int{0, 0, 0, 0, 0, 64}},
	}
}

// wrongIndices holds numbers that are no index of a line where there are as many lines as sides tells.
func wrongIndices(sides int) []int {
	return []int{-1, sides, sides + 1, 64, -64, math.MaxInt, math.MinInt}
}

// wrongSides holds numbers out of 1..MaxSide.
func wrongSides() []int {
	return []int{0, -1, impl.MaxSide + 1, 63, 64, math.MaxInt, math.MinInt}
}

// isZero reports whether a result is the zero value; a nil slice and an empty one are the same.
func isZero(v any) bool {
	switch x := v.(type) {
	case impl.Board:
		return x.Rows == 0 && x.Columns == 0 && len(x.Cells) == 0
	case []int:
		return len(x) == 0
	case [][]int:
		return len(x) == 0
	case [][][]int:
		return len(x) == 0
	case impl.Lines:
		return len(x.Rows) == 0 && len(x.Columns) == 0
	case []impl.Lines:
		return len(x) == 0
	case impl.Desk:
		return isZero(x.Board) && len(x.Rooks) == 0
	case []string:
		return len(x) == 0
	}
	return reflect.ValueOf(v).IsZero()
}

// fails checks that a call returned the zero value of every result.
func fails(t *testing.T, what string, results ...any) {
	t.Helper()
	for i, v := range results {
		if !isZero(v) {
			t.Errorf("%s: the result with the index %d is %v, not zero", what, i, v)
		}
	}
}

// both gathers the results of a call of two results.
func both[T any](v T, ok bool) []any {
	return []any{v, ok}
}

// expectBoard checks the result of a call that has to succeed.
func expectBoard(t *testing.T, what string, want impl.Board, got impl.Board, ok bool) {
	t.Helper()
	if !ok || !sameBoard(got, want) {
		t.Errorf("%s: %v %v instead of %v", what, got, ok, want)
	}
}

// must takes the result of a call that has to succeed.
func must[T any](v T, ok bool) T {
	if !ok {
		panic("a call failed that has to succeed")
	}
	return v
}
