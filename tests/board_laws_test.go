package tests

import (
	"fmt"
	"testing"

	"loop.example/g01125/impl"
)

// Promise 1: boards are told by cells, and what is done with them is undone or commutes.

// agree checks that two ways lead to the same board.
func agree(t *testing.T, what string, a, b impl.Board) {
	t.Helper()
	if !sameBoard(a, b) {
		t.Errorf("%s: %v is not %v", what, a, b)
	}
}

func TestLawsToldByCells(t *testing.T) {
	seen := map[string]bool{}
	for _, b := range sampleBoards() {
		cells := must(impl.CellsOf(b))
		agree(t, "FromCells of CellsOf", must(impl.FromCells(b.Rows, b.Columns, cells)), b)
		agree(t, "ParseBoard of BoardText", must(impl.ParseBoard(must(impl.BoardText(b)))), b)
		seen[must(impl.BoardText(b))] = true
		if n := must(impl.CountCells(b)); n != len(cells) {
			t.Errorf("%v has %d cells, and CellsOf %d", b, n, len(cells))
		}
		for _, cell := range cells {
			if !must(impl.HasCell(b, cell[0], cell[1])) {
				t.Errorf("%v has no cell %v of CellsOf", b, cell)
			}
		}
	}
	small := 0
	for rows := 1; rows <= 3; rows++ {
		for columns := 1; columns <= 3; columns++ {
			small += 1 << (rows * columns)
		}
	}
	if len(seen) < small {
		t.Errorf("only %d different texts", len(seen))
	}
}

func TestLawsUndone(t *testing.T) {
	for _, b := range sampleBoards() {
		agree(t, "complement twice", must(impl.ComplementOf(must(impl.ComplementOf(b)))), b)
		agree(t, "turn twice", must(impl.TurnBoard(must(impl.TurnBoard(b)))), b)
		agree(t, "mirror twice", must(impl.MirrorBoard(must(impl.MirrorBoard(b)))), b)
		for _, order := range orders(b.Rows) {
			back := make([]int, len(order))
			for i, r := range order {
				back[r] = i
			}
			agree(t, "order and back", must(impl.OrderRows(must(impl.OrderRows(b, order)), back)), b)
		}
		for r := 0; r < b.Rows; r++ {
			for c := 0; c < b.Columns; c++ {
				was := must(impl.HasCell(b, r, c))
				other := must(impl.PutCell(b, r, c, !was))
				agree(t, "put and back", must(impl.PutCell(other, r, c, was)), b)
				agree(t, "put as it was", must(impl.PutCell(b, r, c, was)), b)
				if must(impl.HasCell(other, r, c)) == was {
					t.Errorf("%v: PutCell %d %d has no effect", b, r, c)
				}
			}
		}
	}
}

func TestLawsTurnsCommute(t *testing.T) {
	for _, b := range sampleBoards() {
		not := must(impl.ComplementOf(b))
		turned := must(impl.TurnBoard(b))
		mirrored := must(impl.MirrorBoard(b))
		agree(t, "complement and turn", must(impl.TurnBoard(not)), must(impl.ComplementOf(turned)))
		agree(t, "complement and mirror", must(impl.MirrorBoard(not)), must(impl.ComplementOf(mirrored)))
		backwards := make([]int, b.Rows)
		for i := range backwards {
			backwards[i] = b.Rows - 1 - i
		}
		upside := must(impl.OrderRows(b, backwards))
		agree(t, "mirror behind a turn", must(impl.TurnBoard(must(impl.MirrorBoard(turned)))), upside)
		agree(t, "order and mirror", must(impl.MirrorBoard(upside)), must(impl.OrderRows(mirrored, backwards)))
		full := must(impl.FullBoard(b.Rows, b.Columns))
		agree(t, "board and complement", must(impl.UnionOf(b, not)), full)
		agree(t, "nothing in common", must(impl.MeetOf(b, not)), must(impl.ComplementOf(full)))
	}
}

func TestLawsStrikesCommute(t *testing.T) {
	for _, b := range sampleBoards() {
		if b.Rows == 1 || b.Columns == 1 {
			continue
		}
		for r := 0; r < b.Rows; r++ {
			for c := 0; c < b.Columns; c++ {
				s := must(impl.StrikeCell(b, r, c))
				agree(t, "strike and turn", must(impl.TurnBoard(s)), must(impl.StrikeCell(must(impl.TurnBoard(b)), c, r)))
				agree(t, "strike and complement", must(impl.ComplementOf(s)), must(impl.StrikeCell(must(impl.ComplementOf(b)), r, c)))
				agree(t, "strike and mirror", must(impl.MirrorBoard(s)), must(impl.StrikeCell(must(impl.MirrorBoard(b)), r, b.Columns-1-c)))
				strikeAgain(t, s, b, r, c)
			}
		}
	}
}

// strikeAgain checks that two strikes, of which none is behind the other one, may change their order.
func strikeAgain(t *testing.T, s impl.Board, b impl.Board, r, c int) {
	if s.Rows == 1 || s.Columns == 1 {
		return
	}
	for i := r; i < s.Rows; i++ {
		for j := c; j < s.Columns; j++ {
			later := must(impl.StrikeCell(must(impl.StrikeCell(b, i+1, j+1)), r, c))
			agree(t, "two strikes", must(impl.StrikeCell(s, i, j)), later)
		}
	}
}

func TestLawsOfTwoBoards(t *testing.T) {
	for _, pair := range pairs() {
		a, b := pair[0], pair[1]
		what := fmt.Sprint(pair)
		if a.Rows == b.Rows && a.Columns == b.Columns {
			lawsOfFitting(t, what, a, b)
		}
		if a.Rows+b.Rows <= 6 && a.Columns+b.Columns <= 6 {
			lawsOfStacks(t, what, a, b)
		}
	}
}

func lawsOfFitting(t *testing.T, what string, a, b impl.Board) {
	u, m := must(impl.UnionOf(a, b)), must(impl.MeetOf(a, b))
	agree(t, "union "+what, u, must(impl.UnionOf(b, a)))
	agree(t, "meet "+what, m, must(impl.MeetOf(b, a)))
	notA, notB := must(impl.ComplementOf(a)), must(impl.ComplementOf(b))
	agree(t, "complement of union "+what, must(impl.ComplementOf(u)), must(impl.MeetOf(notA, notB)))
	turned := must(impl.UnionOf(must(impl.TurnBoard(a)), must(impl.TurnBoard(b))))
	agree(t, "union of turned "+what, must(impl.TurnBoard(u)), turned)
	for _, parts := range [][2]impl.Board{{a, a}, {m, a}, {m, b}, {a, u}, {b, u}} {
		if !must(impl.IsPartOf(parts[0], parts[1])) {
			t.Errorf("%v is a part of %v", parts[0], parts[1])
		}
	}
	if must(impl.IsPartOf(a, b)) != sameBoard(m, a) || must(impl.IsPartOf(a, b)) != sameBoard(u, b) {
		t.Errorf("%s: part, meet and union disagree", what)
	}
	sum := must(impl.CountCells(a)) + must(impl.CountCells(b))
	if must(impl.CountCells(u))+must(impl.CountCells(m)) != sum {
		t.Errorf("%s: cells of union and meet", what)
	}
}

func lawsOfStacks(t *testing.T, what string, a, b impl.Board) {
	s := must(impl.StackBoards(a, b))
	turned := must(impl.StackBoards(must(impl.TurnBoard(a)), must(impl.TurnBoard(b))))
	agree(t, "turned stack "+what, must(impl.TurnBoard(s)), turned)
	if must(impl.CountCells(s)) != must(impl.CountCells(a))+must(impl.CountCells(b)) {
		t.Errorf("%s: cells of a stack", what)
	}
	counts := append(append([]int{}, must(impl.RowCounts(a))...), must(impl.RowCounts(b))...)
	if !sameList(must(impl.RowCounts(s)), counts) {
		t.Errorf("%s: row counts of a stack", what)
	}
}
