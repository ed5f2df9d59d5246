package tests

import (
	"fmt"
	"slices"
	"testing"

	"loop.example/g01125/impl"
)

// probe hands out arguments with filled spare capacity, or with none if it is bare, and remembers what they were.
type probe struct {
	bare    bool
	lists   [][]int
	befores [][]int
	outers  [][][]int
	insides [][][]int
}

// list returns the values in a slice behind which there is spare capacity that nothing may touch.
func (p *probe) list(values []int) []int {
	whole := append(make([]int, 0, len(values)+3), values...)
	if p.bare {
		return whole[:len(values):len(values)]
	}
	whole = append(whole, 1, 0, 1)
	p.lists = append(p.lists, whole)
	p.befores = append(p.befores, append([]int{}, whole...))
	return whole[:len(values)]
}

// board returns the board with Cells of the kind that list returns.
func (p *probe) board(b impl.Board) impl.Board {
	b.Cells = p.list(b.Cells)
	return b
}

// lines returns lines with Rows and Columns of the kind that list returns.
func (p *probe) lines(l impl.Lines) impl.Lines {
	return impl.Lines{Rows: p.list(l.Rows), Columns: p.list(l.Columns)}
}

// desk returns a desk with Cells and Rooks of the kind that list returns.
func (p *probe) desk(d impl.Desk) impl.Desk {
	return impl.Desk{Board: p.board(d.Board), Rooks: p.list(d.Rooks)}
}

// nested does for a list of lists what list does for one.
func (p *probe) nested(values [][]int) [][]int {
	whole := make([][]int, 0, len(values)+2)
	for _, v := range values {
		whole = append(whole, p.list(v))
	}
	if p.bare {
		return whole[:len(values):len(values)]
	}
	whole = append(whole, p.list([]int{0, 0}), p.list([]int{1, 1}))
	p.outers = append(p.outers, whole)
	p.insides = append(p.insides, append([][]int{}, whole...))
	return whole[:len(values)]
}

// changed reports whether an argument, or the capacity behind it, is not what it was.
func (p *probe) changed() bool {
	for i := range p.lists {
		if !sameList(p.lists[i], p.befores[i]) {
			return true
		}
	}
	for i, outer := range p.outers {
		for j, was := range p.insides[i] {
			now := outer[j]
			if len(now) != len(was) || len(was) > 0 && &now[0] != &was[0] {
				return true
			}
		}
	}
	return false
}

// slicesOf lists the slices of numbers that a result consists of.
func slicesOf(results []any) [][]int {
	var list [][]int
	for _, v := range results {
		switch x := v.(type) {
		case impl.Board:
			list = append(list, x.Cells)
		case []int:
			list = append(list, x)
		case [][]int:
			list = append(list, x...)
		case [][][]int:
			list = append(list, slices.Concat(x...)...)
		case impl.Lines:
			list = append(list, x.Rows, x.Columns)
		case []impl.Lines:
			for _, l := range x {
				list = append(list, l.Rows, l.Columns)
			}
		case impl.Desk:
			list = append(list, x.Board.Cells, x.Rooks)
		}
	}
	return list
}

func copyLists(lists [][]int) [][]int {
	var list [][]int
	for _, l := range lists {
		list = append(list, append([]int{}, l...))
	}
	return list
}

// scribble overwrites a slice and all that its capacity reaches.
func scribble(l []int) {
	l = l[:cap(l)]
	for i := range l {
		l[i] = -99
	}
}

// wipe clears one list of slices after the other, with all that its capacity reaches, and then all of them.
// It reports whether that changed a list that was not cleared yet.
func wipe(lists [][][]int) bool {
	shared := false
	for i, list := range lists {
		clear(list[:cap(list)])
		for _, other := range lists[i+1:] {
			// No slice of such a result is empty.
			shared = shared || slices.ContainsFunc(other, func(l []int) bool { return len(l) == 0 })
		}
	}
	clear(lists[:cap(lists)])
	return shared
}

// checkMemory makes a call and checks that it changes no argument, that it returns the same whether or not there is
// capacity behind its arguments, and that what it returns is memory of its own: overwriting one slice of a result
// changes no argument, no other slice of it, and no later call.
func checkMemory(t *testing.T, what string, call func(p *probe) []any) {
	t.Helper()
	p := &probe{}
	results := call(p)
	if p.changed() {
		t.Errorf("%s: an argument was modified", what)
	}
	told := fmt.Sprint(results...)
	if bare := fmt.Sprint(call(&probe{bare: true})...); bare != told {
		t.Errorf("%s: %s, but %s without spare capacity", what, told, bare)
	}
	got := slicesOf(results)
	first := copyLists(got)
	for i := range got {
		scribble(got[i])
		for j := i + 1; j < len(got); j++ {
			if !sameList(got[j], first[j]) {
				t.Errorf("%s: the slices %d and %d of the result share memory", what, i, j)
			}
		}
	}
	for _, v := range results {
		switch x := v.(type) {
		case [][]int:
			clear(x[:cap(x)])
		case [][][]int:
			if wipe(x) {
				t.Errorf("%s: lists of the result share memory", what)
			}
		case []impl.Lines:
			clear(x[:cap(x)])
		case []string:
			clear(x[:cap(x)])
		}
	}
	if p.changed() {
		t.Errorf("%s: the result shares memory with an argument", what)
	}
	if again := fmt.Sprint(call(&probe{})...); again != told {
		t.Errorf("%s: %s when called again, %s before", what, again, told)
	}
}

// calm makes a call and reports a panic as a failure of the test.
func calm(t *testing.T, what string, call func()) {
	t.Helper()
	defer func() {
		if r := recover(); r != nil {
			t.Errorf("%s: panic: %v", what, r)
		}
	}()
	call()
}

// boardCall is a call of one function of one board, with the other arguments chosen.
type boardCall struct {
	name string
	call func(p *probe, b impl.Board) []any
}

// checkWrongBoards checks that each call succeeds for the board 11/01, and that for values that are no boards
// it returns zeros and modifies nothing.
func checkWrongBoards(t *testing.T, calls []boardCall) {
	t.Helper()
	for _, f := range calls {
		if results := f.call(&probe{}, of("11/01")); results[len(results)-1] != true {
			t.Errorf("%s: fails for a right board", f.name)
		}
		for _, b := range wrongBoards() {
			p := &probe{}
			what := fmt.Sprint(f.name, " ", b)
			calm(t, what, func() { fails(t, what, f.call(p, b)...) })
			if p.changed() {
				t.Errorf("%s: an argument was modified", what)
			}
		}
	}
}

// checkCallMemory does checkMemory for each call and many boards, for some of which the call fails.
func checkCallMemory(t *testing.T, calls []boardCall) {
	t.Helper()
	for _, f := range calls {
		for _, b := range append(boardsOfSize(2, 2), largeBoards()...) {
			checkMemory(t, fmt.Sprint(f.name, " ", b), func(p *probe) []any { return f.call(p, b) })
		}
	}
}
