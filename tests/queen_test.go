package tests

import (
	"fmt"
	"slices"
	"testing"

	"loop.example/g01125/impl"
)

// Promise 9, function by function: each result is held against what the tests find by trying all lists, by drawing,
// or by walking over the board.

// checkWrongLineups checks that a call fails for each list that does not have each number once.
func checkWrongLineups(t *testing.T, name string, call func(q []int) []any) {
	t.Helper()
	lists := wrongLineups()
	for length := range 5 {
		lists = append(lists, allLists(length, -1, 4)...)
	}
	for _, list := range lists {
		if !isLineup(list) {
			fails(t, fmt.Sprint(name, " ", list), call(list)...)
		}
	}
	for _, list := range someLineups() {
		if results := call(list); results[len(results)-1] != true {
			t.Errorf("%s %v: %v", name, list, results)
		}
	}
}

// checkWrongQueenSides checks that a call fails for each number of rows on which there are no queens, and for those only,
// and for others as told.
func checkWrongQueenSides(t *testing.T, name string, most int, but []int, call func(n int) []any) {
	t.Helper()
	for _, n := range append(wrongQueenSides(), wrongCounts(1, most)...) {
		if n < 1 || n > most {
			fails(t, fmt.Sprint(name, " ", n), call(n)...)
		}
	}
	for n := 1; n <= most; n++ {
		knowsZeros(t, fmt.Sprint(name, " ", n), !slices.Contains(but, n), call(n))
	}
}

func TestQueenAreQueens(t *testing.T) {
	if impl.MaxQueens != 8 || impl.MaxWatched != 6 {
		t.Error("MaxQueens and MaxWatched are", impl.MaxQueens, impl.MaxWatched)
	}
	for _, list := range someLineups() {
		want := len(attackingRows(list)) == 0
		if got, ok := impl.AreQueens(list); !ok || got != want {
			t.Errorf("AreQueens %v: %v %v instead of %v", list, got, ok, want)
		}
	}
	known := []struct {
		list []int
		want bool
	}{
		{[]int{0}, true}, {[]int{0, 1}, false}, {[]int{1, 0}, false}, {[]int{0, 2, 1}, false}, {[]int{1, 0, 2}, false}, {[]int{2, 0, 1}, false},
		{[]int{1, 3, 0, 2}, true}, {[]int{2, 0, 3, 1}, true}, {[]int{0, 2, 3, 1}, false}, {[]int{0, 3, 1, 2}, false}, {[]int{3, 1, 2, 0}, false},
		{[]int{0, 2, 4, 1, 3}, true}, {[]int{0, 1, 2, 3, 4}, false}, {[]int{4, 0, 2, 1, 3}, false}, {[]int{1, 3, 5, 0, 2, 4}, true},
		{[]int{0, 4, 7, 5, 2, 6, 1, 3}, true}, {[]int{0, 4, 7, 5, 2, 6, 3, 1}, false}, {[]int{7, 6, 5, 4, 3, 2, 1, 0}, false},
		// The first row and the last one attack each other, and no others.
		{[]int{0, 2, 4, 1, 3, 5}, false}, {[]int{0, 2, 4, 6, 1, 3, 5, 7}, false}, {[]int{7, 5, 3, 1, 6, 4, 2, 0}, false},
	}
	for _, k := range known {
		if got, ok := impl.AreQueens(k.list); !ok || got != k.want {
			t.Errorf("AreQueens %v: %v %v", k.list, got, ok)
		}
	}
	checkWrongLineups(t, "AreQueens", func(q []int) []any { return both(impl.AreQueens(q)) })
}

func TestQueenAttacksOf(t *testing.T) {
	sizes := map[int]bool{}
	for _, list := range someLineups() {
		want := attackingRows(list)
		sizes[len(want)] = true
		if got, ok := impl.AttacksOf(list); !ok || !sameLists(got, want) {
			t.Errorf("AttacksOf %v: %v %v instead of %v", list, got, ok, want)
		}
	}
	for _, size := range []int{0, 1, 2, 3, 4, 5, 6, 10, 15, 21, 28} {
		if !sizes[size] {
			t.Error("no list has", size, "attacks")
		}
	}
	known := []struct {
		list []int
		want [][]int
	}{
		{[]int{0}, nil}, {[]int{0, 1}, [][]int{{0, 1}}}, {[]int{1, 0}, [][]int{{0, 1}}}, {[]int{0, 1, 2}, [][]int{{0, 1}, {0, 2}, {1, 2}}},
		{[]int{0, 2, 1}, [][]int{{1, 2}}}, {[]int{1, 0, 2}, [][]int{{0, 1}}}, {[]int{1, 3, 0, 2}, nil}, {[]int{0, 2, 1, 3}, [][]int{{0, 3}, {1, 2}}},
		{[]int{3, 1, 2, 0}, [][]int{{0, 3}, {1, 2}}}, {[]int{0, 3, 1, 6, 4, 2, 5, 7}, [][]int{{0, 4}, {0, 7}, {2, 6}, {4, 7}}},
		{[]int{0, 2, 4, 6, 1, 3, 5, 7}, [][]int{{0, 7}}}, {[]int{7, 5, 3, 1, 6, 4, 2, 0}, [][]int{{0, 7}}},
	}
	for _, k := range known {
		if got, ok := impl.AttacksOf(k.list); !ok || !sameLists(got, k.want) {
			t.Errorf("AttacksOf %v: %v %v", k.list, got, ok)
		}
	}
	checkWrongLineups(t, "AttacksOf", func(q []int) []any { return both(impl.AttacksOf(q)) })
}

func TestQueenCountQueens(t *testing.T) {
	known := []int{1, 0, 0, 2, 10, 4, 40, 92}
	for n := 1; n <= 8; n++ {
		if len(queensOn(n)) != known[n-1] {
			t.Fatalf("%d queens on %d rows by trying", len(queensOn(n)), n)
		}
		if got, ok := impl.CountQueens(n); !ok || got != known[n-1] {
			t.Errorf("CountQueens %d: %d %v", n, got, ok)
		}
	}
	checkWrongQueenSides(t, "CountQueens", 8, nil, func(n int) []any { return both(impl.CountQueens(n)) })
}

func TestQueenAllQueens(t *testing.T) {
	for n := 1; n <= 8; n++ {
		if got, ok := impl.AllQueens(n); !ok || !sameLists(got, queensOn(n)) {
			t.Errorf("AllQueens %d: %v %v", n, got, ok)
		}
	}
	known := [][][]int{
		1: {{0}}, 2: nil, 3: nil, 4: {{1, 3, 0, 2}, {2, 0, 3, 1}}, 6: {{1, 3, 5, 0, 2, 4}, {2, 5, 1, 4, 0, 3}, {3, 0, 4, 1, 5, 2}, {4, 2, 0, 5, 3, 1}},
		5: {{0, 2, 4, 1, 3}, {0, 3, 1, 4, 2}, {1, 3, 0, 2, 4}, {1, 4, 2, 0, 3}, {2, 0, 3, 1, 4}, {2, 4, 1, 3, 0}, {3, 0, 2, 4, 1}, {3, 1, 4, 2, 0}, {4, 1, 3, 0, 2}, {4, 2, 0, 3, 1}},
	}
	for n := 1; n <= 6; n++ {
		if got, ok := impl.AllQueens(n); !ok || !sameLists(got, known[n]) {
			t.Errorf("AllQueens %d: %v %v", n, got, ok)
		}
	}
	checkWrongQueenSides(t, "AllQueens", 8, nil, func(n int) []any { return both(impl.AllQueens(n)) })
}

func TestQueenFirstQueens(t *testing.T) {
	known := [][]int{nil, {0}, nil, nil, {1, 3, 0, 2}, {0, 2, 4, 1, 3}, {1, 3, 5, 0, 2, 4}, {0, 2, 4, 6, 1, 3, 5}, {0, 4, 7, 5, 2, 6, 1, 3}}
	for n := 1; n <= 8; n++ {
		got, ok := impl.FirstQueens(n)
		if ok != (n != 2 && n != 3) || !sameList(got, known[n]) {
			t.Errorf("FirstQueens %d: %v %v", n, got, ok)
		}
		if ok && !sameList(got, queensOn(n)[0]) {
			t.Errorf("FirstQueens %d: %v, but %v by trying", n, got, queensOn(n)[0])
		}
	}
	checkWrongQueenSides(t, "FirstQueens", 8, []int{2, 3}, func(n int) []any { return both(impl.FirstQueens(n)) })
}

// expectGoingOn checks CountGoingOn for a list that may be any.
func expectGoingOn(t *testing.T, n int, list []int) {
	t.Helper()
	got, ok := impl.CountGoingOn(n, list)
	what := fmt.Sprint("CountGoingOn ", n, list)
	if !isBeginning(n, list) {
		fails(t, what, got, ok)
		return
	}
	want := 0
	for _, queens := range queensOn(n) {
		if sameList(queens[:len(list)], list) {
			want++
		}
	}
	if !ok || got != want {
		t.Errorf("%s: %d %v instead of %d", what, got, ok, want)
	}
}

func TestQueenCountGoingOn(t *testing.T) {
	// All lists of few numbers, right ones and wrong ones.
	for n := 1; n <= 8; n++ {
		for length := range 4 {
			for _, list := range allLists(length, -1, n) {
				expectGoingOn(t, n, list)
			}
		}
		// Each beginning of some lists, also of those that attack each other, and one number too many behind all.
		for i, list := range append(lineups(n), queensOn(n)...) {
			if n < 6 || i%(n*n-30) == 0 || i >= len(lineups(n)) {
				for length := range n + 1 {
					expectGoingOn(t, n, list[:length])
				}
				expectGoingOn(t, n, append(slices.Clone(list), n))
				expectGoingOn(t, n, append(slices.Clone(list), 0))
				expectGoingOn(t, n, append(slices.Clone(list), list...))
				for other := 1; other <= 8; other++ {
					expectGoingOn(t, other, list)
				}
			}
		}
		for _, list := range wrongLineups() {
			expectGoingOn(t, n, list)
		}
	}
	known := []struct {
		n    int
		list []int
		want int
	}{
		{1, nil, 1}, {1, []int{}, 1}, {1, []int{0}, 1}, {2, nil, 0}, {2, []int{1}, 0}, {2, []int{1, 0}, 0}, {3, []int{1}, 0}, {3, []int{0, 2, 1}, 0},
		{4, nil, 2}, {4, []int{0}, 0}, {4, []int{1}, 1}, {4, []int{2}, 1}, {4, []int{2, 0}, 1}, {4, []int{2, 0, 3}, 1}, {4, []int{2, 0, 3, 1}, 1}, {4, []int{2, 0, 1, 3}, 0},
		{5, []int{0}, 2}, {8, nil, 92}, {8, []int{0}, 4}, {8, []int{1}, 8}, {8, []int{2}, 16}, {8, []int{3}, 18}, {8, []int{0, 1}, 0}, {8, []int{1, 0}, 0},
		{8, []int{3, 5}, 3}, {8, []int{0, 4, 7, 5, 2, 6, 1, 3}, 1}, {8, []int{0, 4, 7, 5, 2, 6, 3, 1}, 0}, {8, []int{7, 6, 5, 4, 3, 2, 1, 0}, 0},
		// No number that goes on is attacked by another one, but two numbers of the list attack each other.
		{6, []int{1, 3, 5, 0, 4}, 0}, {6, []int{2, 5, 1, 0}, 0},
	}
	for _, k := range known {
		if got, ok := impl.CountGoingOn(k.n, k.list); !ok || got != k.want {
			t.Errorf("CountGoingOn %d %v: %d %v", k.n, k.list, got, ok)
		}
	}
	for _, n := range wrongQueenSides() {
		for _, list := range [][]int{nil, {}, {0}, {0, 0}, {-1}, {8}, {1, 3, 0, 2}} {
			fails(t, fmt.Sprint("CountGoingOn ", n, list), both(impl.CountGoingOn(n, list))...)
		}
	}
}

// turning is a function that makes another list of a list, and the picture of it.
type turning struct {
	name  string
	call  func(q []int) ([]int, bool)
	shown func(p picture) picture
}

func turningCalls() []turning {
	return []turning{{"TurnQueens", impl.TurnQueens, clockwise}, {"MirrorQueens", impl.MirrorQueens, reflected}}
}

func TestQueenTurnAndMirror(t *testing.T) {
	for _, f := range turningCalls() {
		for _, list := range someLineups() {
			want := lineupShown(f.shown(pictureOfLineup(list)))
			if got, ok := f.call(list); !ok || !sameList(got, want) {
				t.Errorf("%s %v: %v %v instead of %v", f.name, list, got, ok, want)
			}
		}
		checkWrongLineups(t, f.name, func(q []int) []any { return both(f.call(q)) })
	}
	known := []struct{ list, turned, mirrored []int }{
		{[]int{0}, []int{0}, []int{0}},
		{[]int{0, 1}, []int{1, 0}, []int{1, 0}},
		{[]int{0, 1, 2}, []int{2, 1, 0}, []int{2, 1, 0}},
		{[]int{1, 2, 0}, []int{0, 2, 1}, []int{1, 0, 2}},
		{[]int{0, 2, 1}, []int{2, 0, 1}, []int{2, 0, 1}},
		{[]int{1, 3, 0, 2}, []int{1, 3, 0, 2}, []int{2, 0, 3, 1}},
		{[]int{0, 2, 4, 1, 3}, []int{4, 1, 3, 0, 2}, []int{4, 2, 0, 3, 1}},
		{[]int{0, 4, 7, 5, 2, 6, 1, 3}, []int{7, 1, 3, 0, 6, 4, 2, 5}, []int{7, 3, 0, 2, 5, 1, 6, 4}},
	}
	for _, k := range known {
		if got, ok := impl.TurnQueens(k.list); !ok || !sameList(got, k.turned) {
			t.Errorf("TurnQueens %v: %v %v", k.list, got, ok)
		}
		if got, ok := impl.MirrorQueens(k.list); !ok || !sameList(got, k.mirrored) {
			t.Errorf("MirrorQueens %v: %v %v", k.list, got, ok)
		}
	}
}

func TestQueenLeastQueens(t *testing.T) {
	for _, list := range someLineups() {
		want := firstOf(eightOf(list))
		if got, ok := impl.LeastQueens(list); !ok || !sameList(got, want) {
			t.Errorf("LeastQueens %v: %v %v instead of %v", list, got, ok, want)
		}
	}
	known := []struct{ list, least []int }{
		{[]int{0}, []int{0}}, {[]int{1, 0}, []int{0, 1}}, {[]int{2, 1, 0}, []int{0, 1, 2}}, {[]int{2, 0, 1}, []int{0, 2, 1}}, {[]int{1, 0, 2}, []int{0, 2, 1}},
		{[]int{2, 0, 3, 1}, []int{1, 3, 0, 2}}, {[]int{4, 2, 0, 3, 1}, []int{0, 2, 4, 1, 3}}, {[]int{2, 4, 1, 3, 0}, []int{0, 2, 4, 1, 3}},
		{[]int{3, 0, 4, 1, 5, 2}, []int{1, 3, 5, 0, 2, 4}}, {[]int{2, 5, 1, 4, 0, 3}, []int{1, 3, 5, 0, 2, 4}}, {[]int{1, 4, 2, 0, 3}, []int{1, 4, 2, 0, 3}}, {[]int{3, 0, 2, 4, 1}, []int{1, 4, 2, 0, 3}},
		{[]int{7, 1, 3, 0, 6, 4, 2, 5}, []int{0, 4, 7, 5, 2, 6, 1, 3}},
	}
	for _, k := range known {
		if got, ok := impl.LeastQueens(k.list); !ok || !sameList(got, k.least) {
			t.Errorf("LeastQueens %v: %v %v", k.list, got, ok)
		}
	}
	checkWrongLineups(t, "LeastQueens", func(q []int) []any { return both(impl.LeastQueens(q)) })
}

func TestQueenCountDifferent(t *testing.T) {
	known := []int{1, 0, 0, 1, 2, 1, 6, 12}
	for n := 1; n <= 8; n++ {
		leasts := map[string]bool{}
		for _, queens := range queensOn(n) {
			leasts[fmt.Sprint(firstOf(eightOf(queens)))] = true
		}
		if got, ok := impl.CountDifferent(n); !ok || got != known[n-1] || got != len(leasts) {
			t.Errorf("CountDifferent %d: %d %v, and %d by trying", n, got, ok, len(leasts))
		}
	}
	checkWrongQueenSides(t, "CountDifferent", 8, nil, func(n int) []any { return both(impl.CountDifferent(n)) })
}

func TestQueenAreOnTorus(t *testing.T) {
	for _, list := range someLineups() {
		want := standsOnTorus(list)
		if got, ok := impl.AreOnTorus(list); !ok || got != want {
			t.Errorf("AreOnTorus %v: %v %v instead of %v", list, got, ok, want)
		}
	}
	known := []struct {
		list []int
		want bool
	}{
		{[]int{0}, true}, {[]int{0, 1}, false}, {[]int{1, 0}, false}, {[]int{0, 2, 1}, false}, {[]int{1, 3, 0, 2}, false}, {[]int{2, 0, 3, 1}, false},
		{[]int{0, 2, 4, 1, 3}, true}, {[]int{0, 3, 1, 4, 2}, true}, {[]int{4, 1, 3, 0, 2}, true}, {[]int{0, 1, 2, 3, 4}, false}, {[]int{0, 4, 3, 2, 1}, false},
		{[]int{1, 3, 5, 0, 2, 4}, false}, {[]int{0, 2, 4, 6, 1, 3, 5}, true}, {[]int{0, 3, 6, 2, 5, 1, 4}, true}, {[]int{6, 1, 3, 5, 0, 2, 4}, true},
		// Queens on the board that attack each other around an edge.
		{[]int{1, 3, 0, 6, 4, 2, 5}, false}, {[]int{0, 4, 7, 5, 2, 6, 1, 3}, false},
	}
	for _, k := range known {
		if got, ok := impl.AreOnTorus(k.list); !ok || got != k.want {
			t.Errorf("AreOnTorus %v: %v %v", k.list, got, ok)
		}
	}
	checkWrongLineups(t, "AreOnTorus", func(q []int) []any { return both(impl.AreOnTorus(q)) })
}

func TestQueenCountOnTorus(t *testing.T) {
	known := []int{1, 0, 0, 0, 10, 0, 28, 0}
	for n := 1; n <= 8; n++ {
		count := 0
		for _, list := range lineups(n) {
			if standsOnTorus(list) {
				count++
			}
		}
		if got, ok := impl.CountOnTorus(n); !ok || got != known[n-1] || got != count {
			t.Errorf("CountOnTorus %d: %d %v, and %d by trying", n, got, ok, count)
		}
	}
	checkWrongQueenSides(t, "CountOnTorus", 8, nil, func(n int) []any { return both(impl.CountOnTorus(n)) })
}

func TestQueenShiftQueens(t *testing.T) {
	for i, list := range someLineups() {
		shifts := []int{-100, -99, -9, -8, -7, -2, -1, 0, 1, 2, 5, 7, 8, 9, 16, 99, 100}
		n := len(list)
		if n > 4 && i%7 != 0 {
			shifts = []int{-100, -n - 1, -n, -1, 0, 1, n, 100}
		}
		for _, rows := range shifts {
			for _, columns := range shifts {
				want := moved(list, rows, columns)
				if got, ok := impl.ShiftQueens(list, rows, columns); !ok || !sameList(got, want) {
					t.Errorf("ShiftQueens %v %d %d: %v %v instead of %v", list, rows, columns, got, ok, want)
				}
			}
		}
	}
	// One list, with all numbers there are.
	for rows := -100; rows <= 100; rows++ {
		for columns := -100; columns <= 100; columns++ {
			list := []int{2, 0, 1, 3, 5, 4, 6}
			if got, ok := impl.ShiftQueens(list, rows, columns); !ok || !sameList(got, moved(list, rows, columns)) {
				t.Errorf("ShiftQueens %v %d %d: %v %v", list, rows, columns, got, ok)
			}
		}
	}
	known := []struct {
		list          []int
		rows, columns int
		want          []int
	}{
		{[]int{0}, 0, 0, []int{0}}, {[]int{0}, -100, 100, []int{0}}, {[]int{0, 1}, 1, 0, []int{1, 0}}, {[]int{0, 1}, 1, 1, []int{0, 1}},
		{[]int{0, 2, 1}, 1, 0, []int{1, 0, 2}}, {[]int{0, 2, 1}, -1, 0, []int{2, 1, 0}}, {[]int{0, 2, 1}, 0, 1, []int{1, 0, 2}}, {[]int{0, 2, 1}, 0, -1, []int{2, 1, 0}},
		{[]int{1, 3, 0, 2}, 1, 0, []int{2, 1, 3, 0}}, {[]int{1, 3, 0, 2}, 0, 1, []int{2, 0, 1, 3}}, {[]int{1, 3, 0, 2}, 4, -4, []int{1, 3, 0, 2}},
		{[]int{0, 2, 4, 1, 3}, 100, -100, []int{0, 2, 4, 1, 3}}, {[]int{0, 2, 4, 1, 3}, 2, 1, []int{2, 4, 1, 3, 0}},
	}
	for _, k := range known {
		if got, ok := impl.ShiftQueens(k.list, k.rows, k.columns); !ok || !sameList(got, k.want) {
			t.Errorf("ShiftQueens %v %d %d: %v %v", k.list, k.rows, k.columns, got, ok)
		}
	}
	for _, wrong := range wrongCounts(-100, 100) {
		if wrong >= -100 && wrong <= 100 {
			continue
		}
		for _, list := range [][]int{{0}, {1, 0}, {1, 3, 0, 2}, {0, 4, 7, 5, 2, 6, 1, 3}, nil, {1, 1}} {
			for _, other := range []int{0, 1, -100, 100, wrong} {
				fails(t, fmt.Sprint("ShiftQueens ", list, wrong, other), both(impl.ShiftQueens(list, wrong, other))...)
				fails(t, fmt.Sprint("ShiftQueens ", list, other, wrong), both(impl.ShiftQueens(list, other, wrong))...)
			}
		}
	}
	checkWrongLineups(t, "ShiftQueens", func(q []int) []any { return both(impl.ShiftQueens(q, 3, -2)) })
	checkWrongLineups(t, "ShiftQueens", func(q []int) []any { return both(impl.ShiftQueens(q, 0, 0)) })
}

func TestQueenStraightQueens(t *testing.T) {
	for n := -2; n <= 11; n++ {
		for step := -20; step <= 20; step++ {
			got, ok := impl.StraightQueens(n, step)
			what := fmt.Sprint("StraightQueens ", n, step)
			if n < 1 || n > 8 || n > 1 && step < 1 || n == 1 && step != 0 || step >= n || !isLineup(straight(n, step)) {
				fails(t, what, got, ok)
			} else if !ok || !sameList(got, straight(n, step)) {
				t.Errorf("%s: %v %v instead of %v", what, got, ok, straight(n, step))
			}
		}
		for _, step := range []int{-1 << 63, -1<<63 + 1, -1 << 32, -64, 63, 64, 1 << 32, 1<<32 + 1, 1<<63 - 2, 1<<63 - 1} {
			fails(t, fmt.Sprint("StraightQueens ", n, step), both(impl.StraightQueens(n, step))...)
		}
	}
	known := []struct {
		n, step int
		want    []int
	}{
		{1, 0, []int{0}}, {1, 1, nil}, {1, -1, nil}, {2, 1, []int{0, 1}}, {2, 0, nil}, {2, 2, nil}, {3, 2, []int{0, 2, 1}}, {4, 1, []int{0, 1, 2, 3}},
		{4, 2, nil}, {4, 3, []int{0, 3, 2, 1}}, {5, 2, []int{0, 2, 4, 1, 3}}, {6, 2, nil}, {6, 3, nil}, {6, 4, nil}, {6, 5, []int{0, 5, 4, 3, 2, 1}},
		{7, 3, []int{0, 3, 6, 2, 5, 1, 4}}, {8, 2, nil}, {8, 3, []int{0, 3, 6, 1, 4, 7, 2, 5}}, {8, 4, nil}, {8, 6, nil}, {8, 7, []int{0, 7, 6, 5, 4, 3, 2, 1}}, {8, 8, nil}, {8, 0, nil},
	}
	for _, k := range known {
		if got, ok := impl.StraightQueens(k.n, k.step); ok != (k.want != nil) || !sameList(got, k.want) {
			t.Errorf("StraightQueens %d %d: %v %v", k.n, k.step, got, ok)
		}
	}
	for _, step := range []int{0, 1, 3, 7} {
		for _, n := range wrongQueenSides() {
			fails(t, fmt.Sprint("StraightQueens ", n, step), both(impl.StraightQueens(n, step))...)
		}
	}
}

// expectWatching checks AreWatching for places that may be any, and reports whether they are watching.
func expectWatching(t *testing.T, n int, places [][]int) bool {
	t.Helper()
	got, ok := impl.AreWatching(n, places)
	what := fmt.Sprint("AreWatching ", n, places)
	if !arePlaces(n, places) {
		fails(t, what, got, ok)
		return false
	}
	want := seesAll(n, places)
	if !ok || got != want {
		t.Errorf("%s: %v %v instead of %v", what, got, ok, want)
	}
	return want
}

func TestQueenAreWatching(t *testing.T) {
	// Few rows: all lists of places, in any order, also with a place twice.
	for n := 1; n <= 3; n++ {
		for length := range n + 1 {
			for _, choice := range allLists(length, 0, n*n-1) {
				var places [][]int
				for _, number := range choice {
					places = append(places, []int{number / n, number % n})
				}
				expectWatching(t, n, places)
			}
		}
	}
	// More rows: all lists of up to three places, and a part of those with more, in their order and backwards.
	for n := 4; n <= 8; n++ {
		for count := range min(n, 4) + 1 {
			number := 0
			placeLists(n, count, func(places [][]int) {
				number++
				if count <= 2 || number%(n*n*n/(7-count)) == 0 || n < 6 && count == 3 {
					expectWatching(t, n, places)
					reversed := slices.Clone(places)
					slices.Reverse(reversed)
					expectWatching(t, n, reversed)
				}
			})
		}
	}
}

// Places that are watching, without one of them, with one moved, with one more, and with one twice.
func TestQueenAreWatchingNear(t *testing.T) {
	for n := 1; n <= 8; n++ {
		watching, not := 0, 0
		for _, watch := range watchesOf(n) {
			if !expectWatching(t, n, watch) {
				t.Errorf("%v are not watching %d rows", watch, n)
			}
			var lists [][][]int
			for at, place := range watch {
				lists = append(lists, slices.Delete(slices.Clone(watch), at, at+1), slices.Insert(slices.Clone(watch), at, place), append(slices.Clone(watch), place))
				for r := range n {
					for c := range n {
						moved := slices.Clone(watch)
						moved[at] = []int{r, c}
						lists = append(lists, moved, slices.Insert(slices.Clone(watch), at, []int{r, c}))
					}
				}
			}
			for _, places := range lists {
				if expectWatching(t, n, places) {
					watching++
				} else {
					not++
				}
			}
		}
		if watching == 0 || not == 0 || n > 3 && min(watching, not) < 20 {
			t.Errorf("places are watching %d rows %d times and not %d times", n, watching, not)
		}
	}
}

func TestQueenAreWatchingInvalid(t *testing.T) {
	for n := 1; n <= 8; n++ {
		for _, watch := range watchesOf(n) {
			for _, wrong := range wrongPlaces(n) {
				for at := range len(watch) + 1 {
					places := slices.Insert(slices.Clone(watch), at, wrong)
					fails(t, fmt.Sprint("AreWatching ", n, places), both(impl.AreWatching(n, places))...)
					if at < len(watch) {
						places := slices.Clone(watch)
						places[at] = wrong
						fails(t, fmt.Sprint("AreWatching ", n, places), both(impl.AreWatching(n, places))...)
					}
				}
				fails(t, fmt.Sprint("AreWatching ", n, wrong), both(impl.AreWatching(n, [][]int{wrong}))...)
			}
			for _, other := range wrongQueenSides() {
				fails(t, fmt.Sprint("AreWatching ", other, watch), both(impl.AreWatching(other, watch))...)
				fails(t, fmt.Sprint("AreWatching ", other), both(impl.AreWatching(other, nil))...)
			}
			// As many places as rows are right, and one more is wrong, also if it is one that comes again.
			for count := n - 1; count <= n+2; count++ {
				places := slices.Repeat([][]int{watch[0]}, count)
				got, ok := impl.AreWatching(n, places)
				if ok != (count <= n) || got != (ok && seesAll(n, places)) {
					t.Errorf("AreWatching %d %v: %v %v", n, places, got, ok)
				}
			}
		}
	}
}

func TestQueenAreWatchingKnown(t *testing.T) {
	known := []struct {
		n      int
		places [][]int
		want   bool
	}{
		{1, nil, false}, {1, [][]int{}, false}, {1, [][]int{{0, 0}}, true}, {2, nil, false}, {2, [][]int{{1, 0}}, true}, {2, [][]int{{1, 1}, {1, 1}}, true},
		{3, [][]int{{1, 1}}, true}, {3, [][]int{{0, 0}}, false}, {3, [][]int{{0, 1}}, false}, {3, [][]int{{0, 0}, {0, 0}}, false}, {3, [][]int{{0, 0}, {0, 1}}, true},
		{3, [][]int{{0, 0}, {0, 2}}, false}, {3, [][]int{{0, 0}, {1, 1}}, true}, {3, [][]int{{0, 0}, {2, 0}, {0, 2}}, true}, {4, [][]int{{1, 1}}, false},
		{4, [][]int{{2, 2}, {0, 0}}, true}, {4, [][]int{{0, 0}, {2, 2}, {2, 2}, {0, 0}}, true}, {4, [][]int{{0, 0}, {1, 1}, {3, 3}}, true}, {4, [][]int{{1, 1}, {0, 0}}, false}, {4, [][]int{{1, 1}, {0, 0}, {1, 1}}, false},
		{5, [][]int{{2, 2}}, false}, {5, [][]int{{2, 2}, {2, 1}, {2, 0}}, false}, {5, [][]int{{0, 0}, {0, 2}, {3, 2}}, true}, {5, [][]int{{2, 2}, {1, 4}, {4, 1}}, true},
		{8, [][]int{{0, 0}, {0, 1}, {1, 5}, {4, 0}, {5, 4}}, true}, {8, [][]int{{0, 0}, {0, 1}, {1, 5}, {4, 0}}, false},
		// Queens reach places behind others: each one of a row and each one of a diagonal.
		{8, [][]int{{0, 0}, {1, 0}, {2, 0}, {3, 0}, {4, 0}, {5, 0}, {6, 0}, {7, 0}}, true}, {4, [][]int{{0, 0}, {1, 1}, {2, 2}, {3, 3}}, true},
	}
	for _, k := range known {
		if got, ok := impl.AreWatching(k.n, k.places); !ok || got != k.want {
			t.Errorf("AreWatching %d %v: %v %v", k.n, k.places, got, ok)
		}
	}
}

func TestQueenLeastWatch(t *testing.T) {
	for n := 1; n <= 6; n++ {
		if got, ok := impl.LeastWatch(n); !ok || !sameLists(got, watchFound(n)) || !sameLists(got, watchesOf(n)[0]) {
			t.Errorf("LeastWatch %d: %v %v instead of %v", n, got, ok, watchFound(n))
		}
	}
	checkWrongQueenSides(t, "LeastWatch", 6, nil, func(n int) []any { return both(impl.LeastWatch(n)) })
}
