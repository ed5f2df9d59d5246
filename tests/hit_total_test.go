package tests

import (
	"fmt"
	"testing"

	"loop.example/g01125/impl"
)

// Promise 11 for chapter 4: no call panics, none modifies an argument, and failing calls return zeros.

// hitCalls holds, for each function that takes a board, calls that succeed for the board 11/01.
func hitCalls() []boardCall {
	calls := []boardCall{
		{"HitNumbers", func(p *probe, b impl.Board) []any { return both(impl.HitNumbers(p.board(b))) }},
		{"CountAvoiding", func(p *probe, b impl.Board) []any { return both(impl.CountAvoiding(p.board(b))) }},
		{"FirstHitting 1", func(p *probe, b impl.Board) []any { return both(impl.FirstHitting(p.board(b), 1)) }},
		{"FirstHitting 2", func(p *probe, b impl.Board) []any { return both(impl.FirstHitting(p.board(b), 2)) }},
		hitsOfCall([]int{0, 1}), hitsOfCall([]int{1, 0}),
	}
	for k := 0; k <= impl.MaxSide; k++ {
		calls = append(calls, boardCall{fmt.Sprint("PermutationsHitting ", k), func(p *probe, b impl.Board) []any {
			return both(impl.PermutationsHitting(p.board(b), k))
		}})
	}
	return calls
}

// hitsOfCall is a call of HitsOf with a list.
func hitsOfCall(list []int) boardCall {
	return boardCall{fmt.Sprint("HitsOf ", list), func(p *probe, b impl.Board) []any {
		return both(impl.HitsOf(p.board(b), p.list(list)))
	}}
}

// hitListCalls holds the calls of the functions that take a list alone.
func hitListCalls() []listCall {
	return []listCall{
		{"HitsFromRooks", func(p *probe, l []int) []any { return both(impl.HitsFromRooks(p.list(l))) }},
		{"RooksFromHits", func(p *probe, l []int) []any { return both(impl.RooksFromHits(p.list(l))) }},
	}
}

// numberCall is a call of a function of one number that succeeds for least..most.
type numberCall struct {
	name        string
	least, most int
	call        func(n int) []any
}

// hitNumberCalls holds the calls of the functions that take numbers alone, with k as 0 and as n.
func hitNumberCalls() []numberCall {
	return []numberCall{
		{"DiagonalBoard", 1, 6, func(n int) []any { return both(impl.DiagonalBoard(n)) }},
		{"AboveBoard", 1, 6, func(n int) []any { return both(impl.AboveBoard(n)) }},
		{"TableBoard", 2, 6, func(n int) []any { return both(impl.TableBoard(n)) }},
		{"Derangements", 0, 12, func(n int) []any { return both(impl.Derangements(n)) }},
		{"CountCouples", 2, 10, func(n int) []any { return both(impl.CountCouples(n)) }},
		{"EulerNumbers", 1, 10, func(n int) []any { return both(impl.EulerNumbers(n)) }},
		{"DerangementsWith 0", 0, 12, func(n int) []any { return both(impl.DerangementsWith(n, 0)) }},
		{"DerangementsWith n", 0, 12, func(n int) []any { return both(impl.DerangementsWith(n, n)) }},
	}
}

func TestHitTotalWrongBoards(t *testing.T) {
	checkWrongBoards(t, hitCalls())
	for _, b := range wrongBoards() {
		// A list as long as Cells are, or as there are rows, is no permutation for what is no board.
		for _, length := range []int{0, len(b.Cells), b.Rows} {
			if length >= 0 && length <= 6 {
				fails(t, fmt.Sprint("HitsOf ", b), both(impl.HitsOf(b, orders(length)[0]))...)
			}
		}
		for _, k := range append(wrongRookCounts(), 0, 1, 6) {
			fails(t, fmt.Sprint("PermutationsHitting ", b, k), both(impl.PermutationsHitting(b, k))...)
			fails(t, fmt.Sprint("FirstHitting ", b, k), both(impl.FirstHitting(b, k))...)
		}
	}
}

// Boards with other numbers of rows than of columns fail, and are not modified.
func TestHitTotalOtherBoards(t *testing.T) {
	for _, b := range otherBoards() {
		for _, f := range append(hitCalls(), hitsOfCall(orders(b.Rows)[0]), hitsOfCall(orders(b.Columns)[0])) {
			p := &probe{}
			what := fmt.Sprint(f.name, " ", b)
			calm(t, what, func() { fails(t, what, f.call(p, b)...) })
			if p.changed() {
				t.Errorf("%s: an argument was modified", what)
			}
		}
	}
}

func TestHitTotalMemory(t *testing.T) {
	checkCallMemory(t, hitCalls())
	for i, b := range hitBoards() {
		if b.Rows < 3 || i%7 == 0 || b.Rows > 4 {
			lists := append(orders(b.Rows)[:min(3, times(b.Rows))], wrongOrders(b.Rows)...)
			for _, list := range lists {
				if len(list) <= 8 {
					f := hitsOfCall(list)
					checkMemory(t, fmt.Sprint(f.name, " ", b), func(p *probe) []any { return f.call(p, b) })
				}
			}
			for k := 0; k <= b.Rows; k++ {
				checkMemory(t, fmt.Sprint("FirstHitting ", b, k), func(p *probe) []any { return both(impl.FirstHitting(p.board(b), k)) })
			}
		}
	}
}

// The Cells of a board may be a permutation, so that both arguments are one memory.
func TestHitTotalOneMemory(t *testing.T) {
	numbers := []int{1, 2, 0}
	b := impl.Board{Rows: 3, Columns: 3, Cells: numbers}
	if n, ok := impl.HitsOf(b, numbers); !ok || n != hitsIn(pictureOf(b), numbers) || !sameList(numbers, []int{1, 2, 0}) {
		t.Errorf("HitsOf a board and its Cells: %d %v, %v", n, ok, numbers)
	}
}

func TestHitTotalMemoryOfLists(t *testing.T) {
	lists := append(wrongSumLists(), allLists(3, 0, 3)...)
	for i, list := range sumLists() {
		if i%5 == 0 {
			lists = append(lists, list)
		}
	}
	for _, list := range lists {
		if len(list) > 64 {
			continue
		}
		for _, f := range hitListCalls() {
			checkMemory(t, fmt.Sprint(f.name, " ", list), func(p *probe) []any { return f.call(p, list) })
		}
	}
	for _, f := range hitNumberCalls() {
		for n := f.least; n <= f.most; n++ {
			checkMemory(t, fmt.Sprint(f.name, " ", n), func(p *probe) []any { return f.call(n) })
		}
	}
}

func TestHitTotalStrangeNumbers(t *testing.T) {
	for _, f := range hitNumberCalls() {
		for _, n := range append(strangeNumbers(), 2, 3, 4, 8, 9, 10, 11, 12, 13, 14) {
			what := fmt.Sprint(f.name, " ", n)
			calm(t, what, func() {
				results := f.call(n)
				if results[1] != (n >= f.least && n <= f.most) {
					t.Errorf("%s: %v", what, results)
				} else if results[1] != true {
					fails(t, what, results...)
				}
			})
		}
	}
	for _, x := range strangeNumbers() {
		for _, y := range strangeNumbers() {
			calm(t, fmt.Sprint("with ", x, y), func() { strangeHits(t, x, y) })
		}
	}
}

// strangeHits makes the calls that take two numbers, or a list with them.
func strangeHits(t *testing.T, x, y int) {
	t.Helper()
	what := fmt.Sprint("with ", x, " and ", y)
	n, ok := impl.DerangementsWith(x, y)
	if ok != (x >= 0 && x <= 12 && y >= 0 && y <= x) {
		t.Errorf("DerangementsWith %s: %v", what, ok)
	} else if !ok {
		fails(t, what, n, ok)
	}
	for _, list := range [][]int{{x}, {x, y}, {x, 1, y}, {0, 0, 0, x, 0, 0, y}, {x, x, x, x, y, y, y, y}} {
		right := len(list) > 1 && len(list) < 8
		for _, number := range list {
			right = right && number >= 0 && number <= 1000000
		}
		hits, ok := impl.HitsFromRooks(list)
		if ok != right {
			t.Errorf("HitsFromRooks %v: %v %v", list, hits, ok)
		} else if !ok {
			fails(t, fmt.Sprint("HitsFromRooks ", list), hits, ok)
		}
		rooks, ok := impl.RooksFromHits(list)
		if ok && !right {
			t.Errorf("RooksFromHits %v: %v", list, rooks)
		} else if !ok {
			fails(t, fmt.Sprint("RooksFromHits ", list), rooks, ok)
		}
	}
	for _, text := range []string{"10/01", "11/11", "00/00", "1", "100/010", "10/01/10", "111/111/111"} {
		list := []int{x, y}
		n, ok := impl.HitsOf(of(text), list)
		if ok != (len(text) == 5 && x >= 0 && x < 2 && y == 1-x) {
			t.Errorf("HitsOf %s %v: %d %v", text, list, n, ok)
		} else if !ok {
			fails(t, fmt.Sprint("HitsOf ", text, list), n, ok)
		}
	}
	for _, text := range []string{"10/01", "1", "0", "111/111/111"} {
		lists, ok := impl.PermutationsHitting(of(text), x)
		if ok != (x >= 0 && x <= 6) {
			t.Errorf("PermutationsHitting %s %d: %v %v", text, x, lists, ok)
		} else if !ok {
			fails(t, fmt.Sprint("PermutationsHitting ", text, x), lists, ok)
		}
		if first, ok := impl.FirstHitting(of(text), x); ok && len(lists) == 0 {
			t.Errorf("FirstHitting %s %d: %v", text, x, first)
		} else if !ok {
			fails(t, fmt.Sprint("FirstHitting ", text, x), first, ok)
		}
	}
}

// Lists far over any limit end in a failure.
func TestHitTotalLongLists(t *testing.T) {
	long := make([]int, 100000)
	for _, f := range hitListCalls() {
		fails(t, f.name+", a long list", f.call(&probe{}, long)...)
	}
	for i := range long {
		long[i] = i
	}
	for _, b := range hitBoards() {
		fails(t, "HitsOf, a long list", both(impl.HitsOf(b, long))...)
	}
	wide := impl.Board{Rows: 6, Columns: 6, Cells: long}
	for _, f := range hitCalls() {
		fails(t, f.name+", long Cells", f.call(&probe{}, wide)...)
	}
}
