package tests

import (
	"fmt"
	"slices"
	"testing"

	"loop.example/g01125/impl"
)

// Promise 11 for chapter 9: no call panics, none modifies an argument, and failing calls return zeros.

// shiftCall is a call of ShiftQueens, and goingOnCall one of CountGoingOn.
func shiftCall(rows, columns int) listCall {
	return listCall{fmt.Sprint("ShiftQueens ", rows, columns), func(p *probe, l []int) []any {
		return both(impl.ShiftQueens(p.list(l), rows, columns))
	}}
}

func goingOnCall(n int) listCall {
	return listCall{fmt.Sprint("CountGoingOn ", n), func(p *probe, l []int) []any {
		return both(impl.CountGoingOn(n, p.list(l)))
	}}
}

// lineupCalls holds, for each function that takes a list with each number once, calls that succeed for all of these.
func lineupCalls() []listCall {
	return []listCall{
		{"AreQueens", func(p *probe, l []int) []any { return both(impl.AreQueens(p.list(l))) }},
		{"AttacksOf", func(p *probe, l []int) []any { return both(impl.AttacksOf(p.list(l))) }},
		{"TurnQueens", func(p *probe, l []int) []any { return both(impl.TurnQueens(p.list(l))) }},
		{"MirrorQueens", func(p *probe, l []int) []any { return both(impl.MirrorQueens(p.list(l))) }},
		{"LeastQueens", func(p *probe, l []int) []any { return both(impl.LeastQueens(p.list(l))) }},
		{"AreOnTorus", func(p *probe, l []int) []any { return both(impl.AreOnTorus(p.list(l))) }},
		shiftCall(0, 0), shiftCall(1, -2), shiftCall(100, -100), shiftCall(-100, 100),
	}
}

// queenNumberCalls holds the calls of the functions that take numbers alone.
func queenNumberCalls() []numberCall {
	return []numberCall{
		{"CountQueens", 1, 8, func(n int) []any { return both(impl.CountQueens(n)) }},
		{"AllQueens", 1, 8, func(n int) []any { return both(impl.AllQueens(n)) }},
		{"CountGoingOn of none", 1, 8, func(n int) []any { return both(impl.CountGoingOn(n, nil)) }},
		{"CountDifferent", 1, 8, func(n int) []any { return both(impl.CountDifferent(n)) }},
		{"CountOnTorus", 1, 8, func(n int) []any { return both(impl.CountOnTorus(n)) }},
		{"StraightQueens 1", 2, 8, func(n int) []any { return both(impl.StraightQueens(n, 1)) }},
		{"StraightQueens 0", 1, 1, func(n int) []any { return both(impl.StraightQueens(n, 0)) }},
		{"StraightQueens 7", 8, 8, func(n int) []any { return both(impl.StraightQueens(n, 7)) }},
		{"AreWatching of none", 1, 8, func(n int) []any { return both(impl.AreWatching(n, nil)) }},
		{"LeastWatch", 1, 6, func(n int) []any { return both(impl.LeastWatch(n)) }},
	}
}

// watchCall is a call of AreWatching.
func watchCall(n int, p *probe, places [][]int) []any {
	return both(impl.AreWatching(n, p.nested(places)))
}

func TestQueenTotalMemoryOfLists(t *testing.T) {
	lists := wrongLineups()
	for i, list := range someLineups() {
		if len(list) < 5 || i%17 == 0 {
			lists = append(lists, list, list[:len(list)-1])
		}
	}
	calls := append(lineupCalls(), shiftCall(101, 0), shiftCall(0, -101))
	for n := 0; n <= 9; n++ {
		calls = append(calls, goingOnCall(n))
	}
	for _, list := range lists {
		if len(list) > 64 {
			continue
		}
		for _, f := range calls {
			checkMemory(t, fmt.Sprint(f.name, " ", list), func(p *probe) []any { return f.call(p, list) })
		}
	}
}

// All queens of a result, all pairs of attacks and all places of a watch are lists of their own.
func TestQueenTotalMemoryOfResults(t *testing.T) {
	for n := -1; n <= 10; n++ {
		for _, f := range queenNumberCalls() {
			checkMemory(t, fmt.Sprint(f.name, " ", n), func(p *probe) []any { return f.call(n) })
		}
		checkMemory(t, fmt.Sprint("FirstQueens ", n), func(p *probe) []any { return both(impl.FirstQueens(n)) })
		for step := -1; step <= n; step++ {
			checkMemory(t, fmt.Sprint("StraightQueens ", n, step), func(p *probe) []any { return both(impl.StraightQueens(n, step)) })
		}
	}
}

func TestQueenTotalMemoryOfPlaces(t *testing.T) {
	for n := 1; n <= 8; n++ {
		for _, watch := range watchesOf(n) {
			for other := n - 1; other <= n+1; other++ {
				checkMemory(t, fmt.Sprint("AreWatching ", other, watch), func(p *probe) []any { return watchCall(other, p, watch) })
				checkMemory(t, fmt.Sprint("AreWatching ", other, watch[1:]), func(p *probe) []any { return watchCall(other, p, watch[1:]) })
			}
			for _, wrong := range wrongPlaces(n) {
				places := slices.Clone(watch)
				places[len(places)/2] = wrong
				checkMemory(t, fmt.Sprint("AreWatching ", n, places), func(p *probe) []any { return watchCall(n, p, places) })
			}
		}
	}
}

// The places of one argument may be one memory, and a list may have others behind it.
func TestQueenTotalOneMemory(t *testing.T) {
	// Three places that lie one behind the other in one list, so that the capacity of each is in the next one.
	whole := []int{0, 0, 2, 4, 4, 2, 9}
	places := [][]int{whole[:2], whole[2:4], whole[4:6]}
	if got, ok := impl.AreWatching(6, places); !ok || !got {
		t.Error("AreWatching in one list:", got, ok)
	}
	if got, ok := impl.AreWatching(6, [][]int{whole[:2], whole[:2], whole[:2]}); !ok || got {
		t.Error("AreWatching, one place again and again:", got, ok)
	}
	for _, same := range [][][]int{{whole[:2], whole[:1]}, {whole[:3], whole[:2]}, {whole}, {whole[:0], whole[:2]}, {whole[5:7]}} {
		fails(t, fmt.Sprint("AreWatching ", same), both(impl.AreWatching(6, same))...)
	}
	if !sameList(whole, []int{0, 0, 2, 4, 4, 2, 9}) {
		t.Error("the places are", whole, "now")
	}
	// Queens of four rows that have those of more rows behind them.
	numbers := []int{1, 3, 0, 2, 4, 4, 5}
	for _, f := range lineupCalls() {
		if results := f.call(&probe{bare: true}, numbers[:4]); results[1] != true {
			t.Errorf("%s: fails for a part of a list", f.name)
		}
		if results := f.call(&probe{bare: true}, numbers[:5]); results[1] != true {
			t.Errorf("%s: fails for a part of a list", f.name)
		}
		fails(t, f.name+", a list with a number twice", f.call(&probe{bare: true}, numbers[:6])...)
	}
	if is, ok := impl.AreQueens(numbers[:4]); !ok || !is || !sameList(numbers, []int{1, 3, 0, 2, 4, 4, 5}) {
		t.Error("AreQueens, a part of a list:", is, ok, numbers)
	}
}

func TestQueenTotalStrangeNumbers(t *testing.T) {
	numbers := append(strangeNumbers(), 2, 3, 4, 8, 9, 10, -100, -101, 100, 101)
	for _, x := range numbers {
		for _, f := range queenNumberCalls() {
			what := fmt.Sprint(f.name, " ", x)
			calm(t, what, func() { knowsZeros(t, what, x >= f.least && x <= f.most, f.call(x)) })
		}
		what := fmt.Sprint("FirstQueens ", x)
		calm(t, what, func() {
			knowsZeros(t, what, x == 1 || x >= 4 && x <= 8, both(impl.FirstQueens(x)))
		})
		for _, y := range numbers {
			calm(t, fmt.Sprint("with ", x, y), func() { strangeQueens(t, x, y) })
		}
	}
}

// strangeQueens makes the calls that take two numbers, or lists with them.
func strangeQueens(t *testing.T, x, y int) {
	t.Helper()
	straightWorks := x == 1 && y == 0 || x > 1 && x <= 8 && y >= 1 && y < x && common(x, y) == 1
	knowsZeros(t, fmt.Sprint("StraightQueens ", x, y), straightWorks, both(impl.StraightQueens(x, y)))
	for _, list := range [][]int{{0}, {1, 0}, {2, 0, 3, 1}, {7, 6, 5, 4, 3, 2, 1, 0}, {1, 1}} {
		shifts := isLineup(list) && x >= -100 && x <= 100 && y >= -100 && y <= 100
		knowsZeros(t, fmt.Sprint("ShiftQueens ", list, x, y), shifts, both(impl.ShiftQueens(list, x, y)))
	}
	for _, list := range [][]int{{x}, {y, x}, {x, 1, y}, {x, 0, 3, y}, {0, 2, x, 1, y}, {7, x, 5, 4, 3, 2, y, 0}, {x, 0, 1, 2, 3, 4, 5, 6, y}} {
		for _, f := range lineupCalls() {
			knowsZeros(t, fmt.Sprint(f.name, " ", list), isLineup(list), f.call(&probe{}, list))
		}
		for _, n := range []int{0, 1, 4, 8, 9, x, y} {
			expectGoingOn(t, n, list)
		}
	}
	for _, places := range [][][]int{{{x, y}}, {{x}, {y}}, {{0, 0}, {x, y}}, {{x, y, 0}}, {{0, x}, {y, 0}, {1, 1}}, {{x, x}, nil, {y, y}}, {{x, y}, {y, x}, {x, y}, {y, x}}} {
		for _, n := range []int{0, 1, 2, 4, 7, 8, 9, x, y} {
			expectWatching(t, n, places)
		}
	}
}

// Lists far over any limit end in a failure.
func TestQueenTotalLongLists(t *testing.T) {
	zeros, rising, falling := make([]int, 100000), make([]int, 100000), make([]int, 100000)
	same, empty, apart := make([][]int, 100000), make([][]int, 100000), make([][]int, 100000)
	for i := range rising {
		rising[i], falling[i] = i, 99999-i
		same[i], apart[i] = []int{0, 0}, []int{i % 8, i / 8 % 8}
	}
	for _, long := range [][]int{zeros, rising, falling} {
		for _, f := range lineupCalls() {
			fails(t, f.name+", a long list", f.call(&probe{bare: true}, long)...)
		}
		for n := 1; n <= 8; n++ {
			fails(t, "CountGoingOn, a long list", both(impl.CountGoingOn(n, long))...)
		}
		fails(t, "CountGoingOn, a list as long as told", both(impl.CountGoingOn(len(long), long))...)
		fails(t, "AreWatching, a long place", both(impl.AreWatching(8, [][]int{{0, 0}, long}))...)
	}
	for _, places := range [][][]int{same, empty, apart} {
		for _, n := range []int{1, 6, 8, len(places)} {
			fails(t, "AreWatching, many places", both(impl.AreWatching(n, places))...)
		}
	}
	for _, f := range lineupCalls() {
		if results := f.call(&probe{}, rising[:8]); results[1] != true {
			t.Errorf("%s: fails for eight numbers", f.name)
		}
		fails(t, f.name+", nine numbers", f.call(&probe{}, rising[:9])...)
	}
	if got, ok := impl.AreWatching(8, apart[:8]); !ok || !got {
		t.Error("AreWatching, eight places:", got, ok)
	}
	fails(t, "AreWatching, nine places", both(impl.AreWatching(8, apart[:9]))...)
}
