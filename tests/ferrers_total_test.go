package tests

import (
	"fmt"
	"testing"

	"loop.example/g01125/impl"
)

// Promise 11 for chapter 3: no call panics, none modifies an argument, and failing calls return zeros.

// listCall is a call of one function of one list, with the other arguments chosen.
type listCall struct {
	name string
	call func(p *probe, list []int) []any
}

// lengthCalls holds, for each function that takes lengths, calls that succeed for all of them.
func lengthCalls() []listCall {
	calls := []listCall{
		{"AreLengths", func(p *probe, l []int) []any { return []any{impl.AreLengths(p.list(l))} }},
		{"BoardOfLengths", func(p *probe, l []int) []any { return both(impl.BoardOfLengths(p.list(l))) }},
		{"FactorsOf", func(p *probe, l []int) []any { return both(impl.FactorsOf(p.list(l))) }},
		{"NumbersOfLengths", func(p *probe, l []int) []any { return both(impl.NumbersOfLengths(p.list(l))) }},
		{"FullPlacements", func(p *probe, l []int) []any { return both(impl.FullPlacements(p.list(l))) }},
		{"ClassOf", func(p *probe, l []int) []any { return both(impl.ClassOf(p.list(l))) }},
		{"CountClass", func(p *probe, l []int) []any { return both(impl.CountClass(p.list(l))) }},
		{"StrictOf", func(p *probe, l []int) []any { return both(impl.StrictOf(p.list(l))) }},
		{"SideOfLengths", func(p *probe, l []int) []any { return both(impl.SideOfLengths(p.list(l))) }},
		{"AreAlikeLengths, one list twice", func(p *probe, l []int) []any {
			same := p.list(l)
			return both(impl.AreAlikeLengths(same, same))
		}},
	}
	for _, x := range []int{-20, -1, 0, 1, 20} {
		calls = append(calls, listCall{fmt.Sprint("ProductAt ", x), func(p *probe, l []int) []any {
			return both(impl.ProductAt(p.list(l), x))
		}})
	}
	for _, other := range [][]int{{0}, {1, 1}, {0, 2, 3}, {0, 1, 2, 3, 4, 5}} {
		calls = append(calls,
			listCall{fmt.Sprint("AreAlikeLengths before ", other), func(p *probe, l []int) []any {
				return both(impl.AreAlikeLengths(p.list(l), p.list(other)))
			}},
			listCall{fmt.Sprint("AreAlikeLengths behind ", other), func(p *probe, l []int) []any {
				return both(impl.AreAlikeLengths(p.list(other), p.list(l)))
			}})
	}
	return calls
}

// orderCalls holds calls of the functions that take a board, which succeed for an ordered one.
func orderCalls() []boardCall {
	return []boardCall{
		{"LengthsOf", func(p *probe, b impl.Board) []any { return both(impl.LengthsOf(p.board(b))) }},
		{"IsOrdered", func(p *probe, b impl.Board) []any { return both(impl.IsOrdered(p.board(b))) }},
		{"OrderOf", func(p *probe, b impl.Board) []any { return both(impl.OrderOf(p.board(b))) }},
	}
}

func TestFerrersTotalWrongLengths(t *testing.T) {
	for _, f := range lengthCalls() {
		for _, right := range [][]int{{0}, {1}, {0, 0}, {1, 1, 3}, {6, 6, 6, 6, 6, 6}} {
			if results := f.call(&probe{}, right); results[len(results)-1] != true {
				t.Errorf("%s: fails for %v", f.name, right)
			}
		}
		for _, list := range wrongLengths() {
			p := &probe{}
			what := fmt.Sprint(f.name, " ", list)
			calm(t, what, func() { fails(t, what, f.call(p, list)...) })
			if p.changed() {
				t.Errorf("%s: an argument was modified", what)
			}
		}
	}
}

// Two wrong lists fail as one does, for each x.
func TestFerrersTotalTwoWrongArguments(t *testing.T) {
	for _, a := range wrongLengths() {
		for _, b := range wrongLengths() {
			fails(t, fmt.Sprint("AreAlikeLengths ", a, b), both(impl.AreAlikeLengths(a, b))...)
		}
		for _, x := range append(wrongPoints(), -20, 0, 20) {
			fails(t, fmt.Sprint("ProductAt ", a, x), both(impl.ProductAt(a, x))...)
		}
	}
}

func TestFerrersTotalWrongBoards(t *testing.T) {
	for _, f := range orderCalls() {
		for _, right := range []string{"0", "1", "10/11", "00/00", "100000/110000/111000/111100/111110/111111"} {
			if results := f.call(&probe{}, of(right)); results[len(results)-1] != true {
				t.Errorf("%s: fails for %s", f.name, right)
			}
		}
		for _, b := range wrongBoards() {
			p := &probe{}
			what := fmt.Sprint(f.name, " ", b)
			calm(t, what, func() { fails(t, what, f.call(p, b)...) })
			if p.changed() {
				t.Errorf("%s: an argument was modified", what)
			}
		}
	}
}

func TestFerrersTotalMemory(t *testing.T) {
	for _, f := range lengthCalls() {
		for i, lengths := range append(allLengthLists(), wrongLengths()...) {
			if len(lengths) < 6 || i%9 == 0 {
				checkMemory(t, fmt.Sprint(f.name, " ", lengths), func(p *probe) []any { return f.call(p, lengths) })
			}
		}
	}
	checkCallMemory(t, orderCalls())
	for _, f := range orderCalls() {
		for _, lengths := range lengthLists(4) {
			// A board in whose rows something has to be moved, with numbers behind its Cells.
			b := must(impl.OrderRows(pictureOfLengths(lengths).board(), []int{3, 1, 0, 2}))
			checkMemory(t, fmt.Sprint(f.name, " ", b), func(p *probe) []any { return f.call(p, b) })
		}
	}
}

func TestFerrersTotalMemoryOfFactors(t *testing.T) {
	lists := append(wrongFactors(), risingLists(3, -3, 4)...)
	for _, class := range classLists(6) {
		lists = append(lists, lessIndices(class[0]))
	}
	for _, factors := range lists {
		checkMemory(t, fmt.Sprint("LengthsFrom ", factors), func(p *probe) []any { return both(impl.LengthsFrom(p.list(factors))) })
	}
	for n := 1; n <= 6; n++ {
		checkMemory(t, fmt.Sprint("StaircaseNumbers ", n), func(p *probe) []any { return both(impl.StaircaseNumbers(n)) })
	}
}

func TestFerrersTotalStrangeNumbers(t *testing.T) {
	for _, x := range strangeNumbers() {
		calm(t, fmt.Sprint("with ", x), func() {
			if numbers, ok := impl.StaircaseNumbers(x); ok != (x >= 1 && x <= 6) {
				t.Errorf("StaircaseNumbers %d: %v %v", x, numbers, ok)
			}
			if n, ok := impl.ProductAt([]int{0, 1, 2}, x); ok != (x >= -20 && x <= 20) || !ok && n != 0 {
				t.Errorf("ProductAt %d: %d %v", x, n, ok)
			}
		})
		for _, y := range strangeNumbers() {
			for _, list := range [][]int{{x}, {x, y}, {x, y, y}, {x, x, x, y, y, y}, {0, 0, 0, 0, x, y}, {x, 0, 1, 2, 3, y}, {x, x, x, x, x, x, y}} {
				calm(t, fmt.Sprint("with ", list), func() { strangeList(t, list) })
			}
		}
	}
}

// strangeList makes all calls that take a list.
func strangeList(t *testing.T, list []int) {
	t.Helper()
	n := len(list)
	is := n <= 6 && doesNotFall(list) && list[0] >= 0 && list[n-1] <= n
	for _, f := range lengthCalls() {
		results := f.call(&probe{}, list)
		if results[len(results)-1] != is {
			t.Errorf("%s %v: %v", f.name, list, results)
		} else if !is {
			fails(t, fmt.Sprint(f.name, " ", list), results...)
		}
	}
	lengths, ok := impl.LengthsFrom(list)
	if !ok {
		fails(t, fmt.Sprint("LengthsFrom ", list), lengths, ok)
	} else if !sameList(must(impl.FactorsOf(lengths)), list) {
		t.Errorf("LengthsFrom %v: %v", list, lengths)
	}
}

// Lists far over any limit end in a failure.
func TestFerrersTotalLongLists(t *testing.T) {
	long := make([]int, 100000)
	for _, f := range lengthCalls() {
		fails(t, f.name+", a long list", f.call(&probe{}, long)...)
	}
	fails(t, "LengthsFrom, a long list", both(impl.LengthsFrom(long))...)
	for i := range long {
		long[i] = i
	}
	for _, f := range lengthCalls() {
		fails(t, f.name+", a long list that grows", f.call(&probe{}, long)...)
	}
	fails(t, "LengthsFrom, a long list that grows", both(impl.LengthsFrom(long))...)
	wide := impl.Board{Rows: 6, Columns: 6, Cells: long}
	for _, f := range orderCalls() {
		fails(t, f.name+", long Cells", f.call(&probe{}, wide)...)
	}
}
