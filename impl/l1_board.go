package impl

import (
	"math/bits"
	"strings"
)

const MaxSide = 6

type Board struct {
	Rows    int
	Columns int
	Cells   []int
}

// grid is a board as a plain value: copying it shares no memory with the Board that it comes from.
type grid struct {
	rows    int
	columns int
	masks   [MaxSide]int
}

// gridOf returns the grid of b and whether b is a board.
func gridOf(b Board) (grid, bool) {
	if !IsBoard(b) {
		return grid{}, false
	}
	g := grid{rows: b.Rows, columns: b.Columns}
	copy(g.masks[:], b.Cells)
	return g, true
}

// gridsOf returns the grids of a and b and whether both are boards.
func gridsOf(a Board, b Board) (grid, grid, bool) {
	g, fineA := gridOf(a)
	h, fineB := gridOf(b)
	return g, h, fineA && fineB
}

// board returns a Board with memory of its own.
func (g grid) board() Board {
	cells := make([]int, g.rows)
	copy(cells, g.masks[:])
	return Board{Rows: g.rows, Columns: g.columns, Cells: cells}
}

// inside reports whether there is a place in the row r and the column c.
func (g grid) inside(r int, c int) bool {
	return r >= 0 && r < g.rows && c >= 0 && c < g.columns
}

// at reports whether the place in the row r and the column c, which is inside, is a cell.
func (g grid) at(r int, c int) bool {
	return g.masks[r]>>c&1 == 1
}

// turnedAt reports what at does on the board with rows and columns exchanged.
func (g grid) turnedAt(r int, c int) bool {
	return g.at(c, r)
}

// mirroredAt reports what at does on the board with its columns in the opposite order.
func (g grid) mirroredAt(r int, c int) bool {
	return g.at(r, g.columns-1-c)
}

// missingAt reports whether the place, which is inside, is no cell.
func (g grid) missingAt(r int, c int) bool {
	return !g.at(r, c)
}

// fits reports whether g and h have as many rows and as many columns.
func (g grid) fits(h grid) bool {
	return g.rows == h.rows && g.columns == h.columns
}

// count returns how many cells there are.
func (g grid) count() int {
	sum := 0
	for _, mask := range g.masks {
		sum += bits.OnesCount(uint(mask))
	}
	return sum
}

// cellList returns the row and the column of each cell, ordered by rows and then by columns.
func (g grid) cellList() [][]int {
	cells := make([][]int, 0, g.count())
	for r := 0; r < g.rows; r++ {
		for c := 0; c < g.columns; c++ {
			if g.at(r, c) {
				cells = append(cells, []int{r, c})
			}
		}
	}
	return cells
}

// indices returns the list of 0, 1, .., count - 1.
func indices(count int) []int {
	list := make([]int, count)
	for i := range list {
		list[i] = i
	}
	return list
}

// isSide reports whether n is a number of rows or of columns that a board may have.
func isSide(n int) bool {
	return n >= 1 && n <= MaxSide
}

// drawGrid returns the grid of this size whose cells are the places where at is true.
func drawGrid(rows int, columns int, at func(r int, c int) bool) grid {
	g := grid{rows: rows, columns: columns}
	for r := 0; r < rows; r++ {
		for c := 0; c < columns; c++ {
			if at(r, c) {
				g.masks[r] |= 1 << c
			}
		}
	}
	return g
}

// drawBoard does what drawGrid does and returns a Board.
func drawBoard(rows int, columns int, at func(r int, c int) bool) Board {
	return drawGrid(rows, columns, at).board()
}

// IsBoard reports whether b is a board.
func IsBoard(b Board) bool {
	// The sizes come first, as the other checks rely on them.
	if !isSide(b.Rows) || !isSide(b.Columns) || len(b.Cells) != b.Rows {
		return false
	}
	for _, mask := range b.Cells {
		if mask < 0 || mask >= 1<<b.Columns {
			return false
		}
	}
	return true
}

// FullBoard returns the board with all cells.
func FullBoard(rows int, columns int) (Board, bool) {
	if !isSide(rows) || !isSide(columns) {
		return Board{}, false
	}
	everywhere := func(r int, c int) bool { return true }
	return drawBoard(rows, columns, everywhere), true
}

// CellsOf returns the row and the column of each cell, ordered by rows and then by columns.
func CellsOf(b Board) ([][]int, bool) {
	g, ok := gridOf(b)
	if !ok {
		return nil, false
	}
	return g.cellList(), true
}

// FromCells returns the board with exactly the given cells, each a row and a column, in any order.
// It fails if one of them is no place of the board or is told twice.
func FromCells(rows int, columns int, cells [][]int) (Board, bool) {
	if !isSide(rows) || !isSide(columns) {
		return Board{}, false
	}
	g := grid{rows: rows, columns: columns}
	for _, cell := range cells {
		if len(cell) != 2 || !g.inside(cell[0], cell[1]) || g.at(cell[0], cell[1]) {
			return Board{}, false
		}
		g.masks[cell[0]] |= 1 << cell[1]
	}
	return g.board(), true
}

// CountCells returns how many cells there are.
func CountCells(b Board) (int, bool) {
	g, ok := gridOf(b)
	if !ok {
		return 0, false
	}
	return g.count(), true
}

// HasCell reports whether there is a cell in the row r and the column c.
func HasCell(b Board, r int, c int) (bool, bool) {
	g, ok := gridOf(b)
	if !ok || !g.inside(r, c) {
		return false, false
	}
	return g.at(r, c), true
}

// PutCell returns the board with the cell there or not, as on tells.
func PutCell(b Board, r int, c int, on bool) (Board, bool) {
	g, ok := gridOf(b)
	if !ok || !g.inside(r, c) {
		return Board{}, false
	}
	if on {
		g.masks[r] |= 1 << c
	} else {
		g.masks[r] &^= 1 << c
	}
	return g.board(), true
}

// StrikeCell returns the board without the row r and the column c, the others moving together.
// It fails if there is one row or one column alone.
func StrikeCell(b Board, r int, c int) (Board, bool) {
	g, ok := gridOf(b)
	if !ok || !g.inside(r, c) || g.rows == 1 || g.columns == 1 {
		return Board{}, false
	}
	left := func(i int, j int) bool { return g.at(skip(i, r), skip(j, c)) }
	return drawBoard(g.rows-1, g.columns-1, left), true
}

// skip returns the index that i was before the line with the index struck went away.
func skip(i int, struck int) int {
	if i < struck {
		return i
	}
	return i + 1
}

// ComplementOf returns the board with exactly the cells that are not in b.
func ComplementOf(b Board) (Board, bool) {
	g, ok := gridOf(b)
	if !ok {
		return Board{}, false
	}
	return drawBoard(g.rows, g.columns, g.missingAt), true
}

// TurnBoard returns the board with rows and columns exchanged.
func TurnBoard(b Board) (Board, bool) {
	g, ok := gridOf(b)
	if !ok {
		return Board{}, false
	}
	return drawBoard(g.columns, g.rows, g.turnedAt), true
}

// MirrorBoard returns the board in which the column c has become Columns - 1 - c.
func MirrorBoard(b Board) (Board, bool) {
	g, ok := gridOf(b)
	if !ok {
		return Board{}, false
	}
	return drawBoard(g.rows, g.columns, g.mirroredAt), true
}

// OrderRows returns the board whose row with the index i is that with the index order[i] of b; order has each row once.
func OrderRows(b Board, order []int) (Board, bool) {
	g, ok := gridOf(b)
	if !ok || !hasEachOnce(order, g.rows) {
		return Board{}, false
	}
	return g.inOrder(order).board(), true
}

// inOrder returns the grid whose row with the index i is that with the index order[i] of g; order has each row once.
func (g grid) inOrder(order []int) grid {
	h := g
	for i, r := range order {
		h.masks[i] = g.masks[r]
	}
	return h
}

// hasEachOnce reports whether list has each of 0..n-1 once, for n up to MaxSide.
func hasEachOnce(list []int, n int) bool {
	if len(list) != n {
		return false
	}
	var seen [MaxSide]bool
	for _, x := range list {
		if x < 0 || x >= n || seen[x] {
			return false
		}
		seen[x] = true
	}
	return true
}

// UnionOf returns the board with the cells of both boards, which fit. It fails for others.
func UnionOf(a Board, b Board) (Board, bool) {
	g, h, ok := gridsOf(a, b)
	if !ok || !g.fits(h) {
		return Board{}, false
	}
	for r := range g.masks {
		g.masks[r] |= h.masks[r]
	}
	return g.board(), true
}

// MeetOf returns the board with the cells that are in both of two boards that fit. It fails for others.
func MeetOf(a Board, b Board) (Board, bool) {
	g, h, ok := gridsOf(a, b)
	if !ok || !g.fits(h) {
		return Board{}, false
	}
	for r := range g.masks {
		g.masks[r] &= h.masks[r]
	}
	return g.board(), true
}

// IsPartOf reports whether each cell of a is in b, for boards that fit; it is false for others.
func IsPartOf(a Board, b Board) (bool, bool) {
	g, h, ok := gridsOf(a, b)
	if !ok {
		return false, false
	}
	if !g.fits(h) {
		return false, true
	}
	for r, mask := range g.masks {
		if mask&^h.masks[r] != 0 {
			return false, true
		}
	}
	return true, true
}

// StackBoards returns the board with a in its first rows and columns, b in its last ones, and no other cells.
// It fails if it is too large.
func StackBoards(a Board, b Board) (Board, bool) {
	g, h, ok := gridsOf(a, b)
	if !ok || !isSide(g.rows+h.rows) || !isSide(g.columns+h.columns) {
		return Board{}, false
	}
	s := grid{rows: g.rows + h.rows, columns: g.columns + h.columns, masks: g.masks}
	for r := 0; r < h.rows; r++ {
		s.masks[g.rows+r] = h.masks[r] << g.columns
	}
	return s.board(), true
}

// RowCounts returns how many cells each row has.
func RowCounts(b Board) ([]int, bool) {
	g, ok := gridOf(b)
	if !ok {
		return nil, false
	}
	counts := make([]int, g.rows)
	for r := range counts {
		counts[r] = bits.OnesCount(uint(g.masks[r]))
	}
	return counts, true
}

// BoardText returns for each row a 1 for each cell and a 0 for each other place, with a / between rows.
func BoardText(b Board) (string, bool) {
	g, ok := gridOf(b)
	if !ok {
		return "", false
	}
	text := make([]byte, 0, g.rows*(g.columns+1))
	for r := 0; r < g.rows; r++ {
		if r > 0 {
			text = append(text, '/')
		}
		for c := 0; c < g.columns; c++ {
			text = append(text, '0'+byte(g.masks[r]>>c&1))
		}
	}
	return string(text), true
}

// ParseBoard returns the board with a BoardText. It fails if there is none.
func ParseBoard(s string) (Board, bool) {
	lines := strings.Split(s, "/")
	if !isSide(len(lines)) || !isSide(len(lines[0])) {
		return Board{}, false
	}
	g := grid{rows: len(lines), columns: len(lines[0])}
	for r, line := range lines {
		mask, ok := parseRow(line, g.columns)
		if !ok {
			return Board{}, false
		}
		g.masks[r] = mask
	}
	return g.board(), true
}

// parseRow returns the mask of a row of a BoardText and whether line is one with as many places as columns tells.
func parseRow(line string, columns int) (int, bool) {
	if len(line) != columns {
		return 0, false
	}
	mask := 0
	for c := 0; c < columns; c++ {
		switch line[c] {
		case '0':
		case '1':
			mask |= 1 << c
		default:
			return 0, false
		}
	}
	return mask, true
}
