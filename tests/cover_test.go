package tests

import (
	"fmt"
	"slices"
	"testing"

	"loop.example/g01125/impl"
)

// Promise 6, function by function: each result is held against what the tests find by trying all lists, lines or ways.

func TestCoverLargestPlacement(t *testing.T) {
	for _, b := range coverBoards() {
		want := largestOf(b)[0]
		if got, ok := impl.LargestPlacement(b); !ok || !sameList(got, want) {
			t.Errorf("LargestPlacement %v: %v %v instead of %v", b, got, ok, want)
		}
	}
	known := map[string][]int{
		"110/100/100":                        {1, 0, -1},
		"110/011/101":                        {0, 1, 2},
		"0":                                  {-1},
		"1":                                  {0},
		"0/0/0/0/0/0":                        {-1, -1, -1, -1, -1, -1},
		"000000":                             {-1},
		"011011":                             {1},
		"0/1/0/1":                            {-1, 0, -1, -1},
		"111/000/111":                        {0, -1, 1},
		"11/11/11":                           {0, 1, -1},
		"01/11/10":                           {1, 0, -1},
		"100000/100000/100001/000001/000001": {0, -1, 5, -1, -1},
		"111111/111110/111100/111000/110000/100000": {5, 4, 3, 2, 1, 0},
	}
	for text, want := range known {
		if got, ok := impl.LargestPlacement(of(text)); !ok || !sameList(got, want) {
			t.Errorf("LargestPlacement %s: %v %v instead of %v", text, got, ok, want)
		}
	}
}

// expectAllLargest checks AllLargest, which fails for more than 300.
func expectAllLargest(t *testing.T, b impl.Board, want [][]int) {
	t.Helper()
	got, ok := impl.AllLargest(b)
	if len(want) > 300 {
		fails(t, fmt.Sprint("AllLargest ", b), got, ok)
	} else if !ok || !sameLists(got, want) {
		t.Errorf("AllLargest %v: %v %v instead of %v", b, got, ok, want)
	}
}

func TestCoverAllLargest(t *testing.T) {
	notFull := 0
	for _, b := range coverBoards() {
		want := largestOf(b)
		if rooksIn(want[0]) < min(b.Rows, b.Columns) {
			notFull++
		}
		expectAllLargest(t, b, want)
	}
	if notFull < 100 {
		t.Error("only", notFull, "boards have no full placement")
	}
	expectAllLargest(t, of("110/100/100"), [][]int{{1, 0, -1}, {1, -1, 0}})
	expectAllLargest(t, of("110/011/101"), [][]int{{0, 1, 2}, {1, 2, 0}})
	expectAllLargest(t, of("1011"), [][]int{{0}, {2}, {3}})
	expectAllLargest(t, of("1/0/1"), [][]int{{0, -1, -1}, {-1, -1, 0}})
	expectAllLargest(t, of("00/00"), [][]int{{-1, -1}})
	expectAllLargest(t, of("11/11/11"), [][]int{{0, 1, -1}, {0, -1, 1}, {1, 0, -1}, {1, -1, 0}, {-1, 0, 1}, {-1, 1, 0}})
}

// The limit of MaxPlacings may be met exactly, and not by more; it does not bind what needs no list.
func TestCoverAllLargestLimit(t *testing.T) {
	if impl.MaxPlacings != 300 {
		t.Error("MaxPlacings is", impl.MaxPlacings)
	}
	for _, l := range limitBoards() {
		b := of(l.text)
		want := largestOf(b)
		if len(want) != l.count {
			t.Fatalf("%s has %d largest placements", l.text, len(want))
		}
		expectAllLargest(t, b, want)
		if got, ok := impl.LargestPlacement(b); !ok || !sameList(got, want[0]) {
			t.Errorf("LargestPlacement %s: %v %v", l.text, got, ok)
		}
		expectCells(t, b, want)
	}
}

func TestCoverIsCover(t *testing.T) {
	for _, b := range append(sampleBoards(), edgeBoards()...) {
		p := pictureOf(b)
		for _, rows := range linesAmong(b.Rows) {
			for _, columns := range linesAmong(b.Columns) {
				want := covers(p, rows, columns)
				l := impl.Lines{Rows: rows, Columns: columns}
				if got, ok := impl.IsCover(b, l); !ok || got != want {
					t.Errorf("IsCover %v %v: %v %v instead of %v", b, l, got, ok, want)
				}
			}
		}
	}
	known := []struct {
		text string
		l    impl.Lines
		want bool
	}{
		{"110/100/100", impl.Lines{Columns: []int{0, 1}}, true},
		{"110/100/100", impl.Lines{Rows: []int{0}, Columns: []int{0}}, true},
		{"110/100/100", impl.Lines{Rows: []int{0, 1}}, false},
		{"110/100/100", impl.Lines{Rows: []int{0, 1, 2}, Columns: []int{0, 1, 2}}, true},
		{"110/100/100", impl.Lines{}, false},
		{"000/000", impl.Lines{}, true},
		{"000/000", impl.Lines{Rows: []int{1}, Columns: []int{2}}, true},
		{"111111/111111/111111/111111/111111/111111", impl.Lines{Rows: []int{0, 1, 2, 3, 4, 5}}, true},
		{"111111/111111/111111/111111/111111/111111", impl.Lines{Rows: []int{0, 1, 2, 3, 5}, Columns: []int{0, 1, 2, 3, 5}}, false},
	}
	for _, k := range known {
		if got, ok := impl.IsCover(of(k.text), k.l); !ok || got != k.want {
			t.Errorf("IsCover %s %v: %v %v", k.text, k.l, got, ok)
		}
	}
}

// Lines that are none of the board make the call fail, whether the others cover it or not.
func TestCoverIsCoverWrongLines(t *testing.T) {
	for _, b := range append(largeBoards(), edgeBoards()...) {
		rows, columns := linesAmong(b.Rows), linesAmong(b.Columns)
		for _, wrong := range wrongLines(b.Rows) {
			for _, right := range [][]int{nil, {0}, columns[len(columns)-1]} {
				fails(t, fmt.Sprint("IsCover, wrong rows, ", b), both(impl.IsCover(b, impl.Lines{Rows: wrong, Columns: right}))...)
			}
		}
		for _, wrong := range wrongLines(b.Columns) {
			for _, right := range [][]int{nil, {0}, rows[len(rows)-1]} {
				fails(t, fmt.Sprint("IsCover, wrong columns, ", b), both(impl.IsCover(b, impl.Lines{Rows: right, Columns: wrong}))...)
			}
			fails(t, "IsCover, both wrong", both(impl.IsCover(b, impl.Lines{Rows: wrongLines(b.Rows)[0], Columns: wrong}))...)
		}
	}
	// A row that there is as a column, and the other way round.
	fails(t, "IsCover 11 and the row 1", both(impl.IsCover(of("11"), impl.Lines{Rows: []int{1}}))...)
	fails(t, "IsCover 1/1 and the column 1", both(impl.IsCover(of("1/1"), impl.Lines{Columns: []int{1}}))...)
}

func TestCoverLeastAndAll(t *testing.T) {
	kinds := map[string]int{}
	for _, b := range coverBoards() {
		want := leastCoversOf(b)
		if got, ok := impl.LeastCover(b); !ok || !sameLines(got, want[0]) {
			t.Errorf("LeastCover %v: %v %v instead of %v", b, got, ok, want[0])
		}
		if got, ok := impl.AllCovers(b); !ok || !sameCovers(got, want) {
			t.Errorf("AllCovers %v: %v %v instead of %v", b, got, ok, want)
		}
		for _, l := range want {
			kinds[fmt.Sprint("rows ", len(l.Rows) > 0, ", columns ", len(l.Columns) > 0)]++
		}
		kinds[fmt.Sprint("several ", len(want) > 1)]++
	}
	// Covers of no lines, of rows alone, of columns alone and of both, and boards with one and with several.
	if len(kinds) != 6 {
		t.Error("kinds of covers:", kinds)
	}
	known := map[string][]impl.Lines{
		"110/100/100": {{Columns: []int{0, 1}}, {Rows: []int{0}, Columns: []int{0}}},
		"000/000":     {{}},
		"1":           {{Columns: []int{0}}, {Rows: []int{0}}},
		"1/1":         {{Columns: []int{0}}},
		"11":          {{Rows: []int{0}}},
		"000/111/000": {{Rows: []int{1}}},
		"111/010/010": {{Rows: []int{0}, Columns: []int{1}}},
		"10/01":       {{Columns: []int{0, 1}}, {Rows: []int{0}, Columns: []int{1}}, {Rows: []int{1}, Columns: []int{0}}, {Rows: []int{0, 1}}},
		"111/111/111": {{Columns: []int{0, 1, 2}}, {Rows: []int{0, 1, 2}}},
	}
	for text, want := range known {
		if got, ok := impl.AllCovers(of(text)); !ok || !sameCovers(got, want) {
			t.Errorf("AllCovers %s: %v %v instead of %v", text, got, ok, want)
		}
		if got, ok := impl.LeastCover(of(text)); !ok || !sameLines(got, want[0]) {
			t.Errorf("LeastCover %s: %v %v instead of %v", text, got, ok, want[0])
		}
	}
	// The most covers that there are: each cell of a diagonal is covered by its row or by its column.
	if got, ok := impl.AllCovers(must(impl.DiagonalBoard(6))); !ok || len(got) != 64 {
		t.Error("AllCovers of a diagonal:", len(got), ok)
	}
}

func TestCoverColumnsOf(t *testing.T) {
	for _, b := range coverBoards() {
		for _, rows := range linesAmong(b.Rows) {
			want := columnsTouched(pictureOf(b), rows)
			if got, ok := impl.ColumnsOf(b, rows); !ok || !sameList(got, want) {
				t.Errorf("ColumnsOf %v %v: %v %v instead of %v", b, rows, got, ok, want)
			}
		}
	}
	for _, b := range append(largeBoards(), edgeBoards()...) {
		for _, wrong := range wrongLines(b.Rows) {
			fails(t, fmt.Sprint("ColumnsOf, wrong rows, ", b), both(impl.ColumnsOf(b, wrong))...)
		}
	}
	if got, ok := impl.ColumnsOf(of("110/100/100"), nil); !ok || len(got) != 0 {
		t.Error("ColumnsOf no rows:", got, ok)
	}
	if got, ok := impl.ColumnsOf(of("000101/000000/100000"), []int{0, 1, 2}); !ok || !sameList(got, []int{0, 3, 5}) {
		t.Error("ColumnsOf all rows:", got, ok)
	}
}

func TestCoverRefusingAndLack(t *testing.T) {
	refused := 0
	for _, b := range coverBoards() {
		rows, lack := refusingIn(pictureOf(b))
		if got, ok := impl.LackOf(b); !ok || got != lack {
			t.Errorf("LackOf %v: %d %v instead of %d", b, got, ok, lack)
		}
		got, ok := impl.RefusingRows(b)
		if lack == 0 {
			fails(t, fmt.Sprint("RefusingRows ", b), got, ok)
			continue
		}
		refused++
		if !ok || !sameList(got, rows) {
			t.Errorf("RefusingRows %v: %v %v instead of %v", b, got, ok, rows)
		}
	}
	if refused == 0 || refused == len(coverBoards()) {
		t.Error("rows refuse on", refused, "boards")
	}
	known := []struct {
		text string
		rows []int
		lack int
	}{
		{"110/100/100", []int{1, 2}, 1},
		{"0", []int{0}, 1},
		{"1", nil, 0},
		{"111111", nil, 0},
		{"1/1/1/1/1/1", []int{0, 1}, 5},
		{"111/000/000", []int{1}, 2},
		{"11/11/11", []int{0, 1, 2}, 1},
		{"110/110/001/110", []int{0, 1, 3}, 1},
		{"1000/0110/0110/1000/0110", []int{0, 3}, 2},
		{"000000/000000/000000/000000/000000/000000", []int{0}, 6},
		{"111111/111111/111111/111111/111111/111111", nil, 0},
		{"11111/11111/11111/11111/11111/11111", []int{0, 1, 2, 3, 4, 5}, 1},
	}
	for _, k := range known {
		if got, ok := impl.LackOf(of(k.text)); !ok || got != k.lack {
			t.Errorf("LackOf %s: %d %v", k.text, got, ok)
		}
		if got, ok := impl.RefusingRows(of(k.text)); ok != (k.lack > 0) || !sameList(got, k.rows) {
			t.Errorf("RefusingRows %s: %v %v", k.text, got, ok)
		}
	}
}

// someOf holds some of the placements on a board, with each number of rooks.
func someOf(b impl.Board) [][]int {
	var list [][]int
	for _, lists := range placings(b) {
		for _, rank := range someRanks(len(lists)) {
			list = append(list, lists[rank])
		}
	}
	return list
}

func TestCoverLongerWay(t *testing.T) {
	steps := map[int]int{}
	for _, b := range coverBoards() {
		p := pictureOf(b)
		for _, list := range someOf(b) {
			want := wayOf(p, list)
			got, ok := impl.LongerWay(b, list)
			steps[len(want)]++
			if want == nil {
				fails(t, fmt.Sprint("LongerWay ", b, list), got, ok)
			} else if !ok || !sameList(got, want) {
				t.Errorf("LongerWay %v %v: %v %v instead of %v", b, list, got, ok, want)
			}
		}
		for _, list := range wrongPlacings(b) {
			fails(t, fmt.Sprint("LongerWay ", b, list), both(impl.LongerWay(b, list))...)
		}
	}
	for length := 0; length <= 12; length += 2 {
		if steps[length] == 0 {
			t.Error("no way has", length, "numbers:", steps)
		}
	}
	known := []struct {
		text            string
		list, way, then []int
	}{
		{"110/100/100", []int{0, -1, -1}, []int{1, 0, 0, 1}, []int{1, 0, -1}},
		{"110/100/100", []int{-1, -1, -1}, []int{0, 0}, []int{0, -1, -1}},
		{"110/100/100", []int{-1, 0, -1}, []int{0, 1}, []int{1, 0, -1}},
		{"110/100/100", []int{1, -1, 0}, nil, nil},
		{"00/01", []int{-1, -1}, []int{1, 1}, []int{-1, 1}},
		{"1", []int{0}, nil, nil},
		{"0", []int{-1}, nil, nil},
		{"100000/110000/011000/001100/000110/000011", []int{-1, 0, 1, 2, 3, 4}, []int{0, 0, 1, 1, 2, 2, 3, 3, 4, 4, 5, 5}, []int{0, 1, 2, 3, 4, 5}},
		// The row 3, which has no column, is looked at before the row 1, which the row 0 has found.
		{"1000/1100/1000/0001", []int{-1, 0, -1, -1}, []int{3, 3}, []int{-1, 0, -1, 3}},
		// Both rows with a rook are found from the row 0, the one in the less column first.
		{"110/101/011", []int{-1, 0, 1}, []int{0, 0, 1, 2}, []int{0, 2, 1}},
		// The second column of the row that is looked at first is the end; the first one leads further.
		{"11/10", []int{-1, 0}, []int{0, 1}, []int{1, 0}},
	}
	for _, k := range known {
		if got, ok := impl.LongerWay(of(k.text), k.list); ok != (k.way != nil) || !sameList(got, k.way) {
			t.Errorf("LongerWay %s %v: %v %v instead of %v", k.text, k.list, got, ok, k.way)
		}
		if got, ok := impl.FollowWay(of(k.text), k.list, k.way); ok != (k.way != nil) || !sameList(got, k.then) {
			t.Errorf("FollowWay %s %v %v: %v %v instead of %v", k.text, k.list, k.way, got, ok, k.then)
		}
	}
}

// waysOf lists all ways of as many pairs as told, with rows in 0..rows-1 and numbers in least..most.
func waysOf(pairs, rows, least, most int) [][]int {
	if pairs == 0 {
		return [][]int{{}}
	}
	var list [][]int
	for _, way := range waysOf(pairs-1, rows, least, most) {
		for r := 0; r < rows; r++ {
			for c := least; c <= most; c++ {
				list = append(list, append(append([]int{}, way...), r, c))
			}
		}
	}
	return list
}

// expectFollowed checks FollowWay, and reports whether it has to succeed.
func expectFollowed(t *testing.T, b impl.Board, list, way []int) bool {
	t.Helper()
	want := followed(pictureOf(b), list, way)
	got, ok := impl.FollowWay(b, list, way)
	if want == nil {
		fails(t, fmt.Sprint("FollowWay ", b, list, way[:min(len(way), 20)]), got, ok)
	} else if !ok || !sameList(got, want) {
		t.Errorf("FollowWay %v %v %v: %v %v instead of %v", b, list, way, got, ok, want)
	}
	return want != nil
}

func TestCoverFollowWay(t *testing.T) {
	longer, not := 0, 0
	try := func(b impl.Board, list, way []int) {
		if expectFollowed(t, b, list, way) {
			longer++
		} else {
			not++
		}
	}
	for _, b := range boardsOfSize(2, 2) {
		for _, list := range someOf(b) {
			for _, way := range slices.Concat(waysOf(1, 2, -3, 3), waysOf(2, 2, -2, 2), waysOf(3, 2, -1, 1)) {
				try(b, list, way)
			}
		}
	}
	for _, text := range []string{"110/011/101", "111/111/111", "110/100/100", "1/1/1", "111", "101/010"} {
		b := of(text)
		for _, list := range someOf(b) {
			for _, way := range slices.Concat(waysOf(1, b.Rows, -2, b.Columns), waysOf(2, b.Rows, -2, b.Columns), waysOf(3, b.Rows, -1, b.Columns-1)) {
				try(b, list, way)
			}
		}
	}
	for _, b := range append(largeBoards(), edgeBoards()...) {
		for _, list := range someOf(b) {
			if way := wayOf(pictureOf(b), list); way != nil {
				try(b, list, way)
				// The way again, from its end, and with its last row or its last number left out.
				try(b, list, slices.Concat(way, way))
				try(b, list, way[:len(way)-1])
				try(b, list, way[:len(way)-2])
				try(b, list, slices.Concat(way[2:], way[:2]))
			}
		}
	}
	if longer < 1000 || not < 1000 {
		t.Error("FollowWay succeeds", longer, "times and fails", not, "times")
	}
}

func TestCoverFollowWayKnown(t *testing.T) {
	full := must(impl.FullBoard(6, 6))
	none := []int{-1, -1, -1, -1, -1, -1}
	known := []struct {
		b               impl.Board
		list, way, then []int
	}{
		// A row that comes twice has the later number; what stands between may be anything.
		{of("11/11"), []int{0, -1}, []int{1, 0, 0, 1}, []int{1, 0}},
		{of("11/11"), []int{0, -1}, []int{1, 1 << 62, 1, 1}, []int{0, 1}},
		{of("11/11"), []int{0, -1}, []int{0, -1 << 63, 1, 1, 0, 0}, []int{0, 1}},
		{of("11/11"), []int{0, -1}, []int{1, 1, 1, -1}, nil},
		{of("11/11"), []int{0, -1}, []int{1, 1, 1, -2}, nil},
		// A rook may go away if more come.
		{of("111/111/111"), []int{0, -1, -1}, []int{0, -1, 1, 0, 2, 1}, []int{-1, 0, 1}},
		{of("111/111/111"), []int{0, -1, -1}, []int{0, -1, 1, 0}, nil},
		{of("111/111/111"), []int{0, 1, -1}, []int{0, 1, 1, 0}, nil},
		// Twelve numbers are the most, and two the fewest.
		{full, none, []int{0, 5, 1, 4, 2, 3, 3, 2, 4, 1, 5, 0}, []int{5, 4, 3, 2, 1, 0}},
		{full, none, []int{0, 5, 0, 4, 0, 3, 0, 2, 0, 1, 0, 0}, []int{0, -1, -1, -1, -1, -1}},
		{full, none, []int{0, 5, 0, 4, 0, 3, 0, 2, 0, 1, 0, 0, 1, 1}, nil},
		{full, none, []int{0, 5, 0, 4, 0, 3, 0, 2, 0, 1, 0, 0, 1}, nil},
		{full, none, []int{0, 5, 0, 4, 0, 3, 0, 2, 0, 1, 0}, nil},
		{full, none, []int{3, 3}, []int{-1, -1, -1, 3, -1, -1}},
		{full, none, []int{3, 3, 4}, nil},
		{full, none, []int{3}, nil},
		{full, none, nil, nil},
		{full, none, []int{6, 0}, nil},
		{full, none, []int{-1, 0}, nil},
		{full, none, []int{0, 6}, nil},
		{full, none, []int{0, 0, 6, 1}, nil},
		{full, none, []int{0, 0, -1, 1}, nil},
		// On one row or one column.
		{of("0100"), []int{-1}, []int{0, 1}, []int{1}},
		{of("0100"), []int{-1}, []int{0, 0}, nil},
		{of("0100"), []int{1}, []int{0, 1}, nil},
		{of("0/1/1"), []int{-1, -1, -1}, []int{2, 0}, []int{-1, -1, 0}},
		{of("0/1/1"), []int{-1, 0, -1}, []int{1, -1, 2, 0}, nil},
		{of("0"), []int{-1}, []int{0, 0}, nil},
	}
	for _, k := range known {
		got, ok := impl.FollowWay(k.b, k.list, k.way)
		if ok != (k.then != nil) || !sameList(got, k.then) {
			t.Errorf("FollowWay %v %v %v: %v %v instead of %v", k.b, k.list, k.way, got, ok, k.then)
		}
	}
}

func TestCoverFollowWayInvalid(t *testing.T) {
	for _, b := range append(largeBoards(), edgeBoards()...) {
		none := make([]int, b.Rows)
		for r := range none {
			none[r] = -1
		}
		cells := pictureOf(b).cells()
		if len(cells) == 0 {
			continue
		}
		way := []int{cells[0][0], cells[0][1]}
		if !expectFollowed(t, b, none, way) {
			t.Errorf("FollowWay %v %v", none, way)
		}
		// The way would make a placement of the list, but the list is none before.
		for _, list := range wrongPlacings(b) {
			fails(t, fmt.Sprint("FollowWay ", b, list), both(impl.FollowWay(b, list, way))...)
		}
		for _, r := range wrongIndices(b.Rows) {
			fails(t, fmt.Sprint("FollowWay, wrong row, ", b, r), both(impl.FollowWay(b, none, []int{r, cells[0][1]}))...)
			fails(t, fmt.Sprint("FollowWay, wrong row first, ", b, r), both(impl.FollowWay(b, none, []int{r, -1, way[0], way[1]}))...)
			fails(t, fmt.Sprint("FollowWay, wrong row last, ", b, r), both(impl.FollowWay(b, none, []int{way[0], way[1], r, -1}))...)
		}
		for _, c := range wrongIndices(b.Columns) {
			fails(t, fmt.Sprint("FollowWay, wrong number, ", b, c), both(impl.FollowWay(b, none, []int{cells[0][0], c}))...)
		}
	}
}

// expectCells checks NeededCells and UselessCells of a board with these largest placements.
func expectCells(t *testing.T, b impl.Board, largest [][]int) {
	t.Helper()
	needed, useless := cellsBy(b, largest)
	if got, ok := impl.NeededCells(b); !ok || !sameLists(got, needed) {
		t.Errorf("NeededCells %v: %v %v instead of %v", b, got, ok, needed)
	}
	if got, ok := impl.UselessCells(b); !ok || !sameLists(got, useless) {
		t.Errorf("UselessCells %v: %v %v instead of %v", b, got, ok, useless)
	}
}

func TestCoverNeededAndUseless(t *testing.T) {
	kinds := map[string]int{}
	for _, b := range coverBoards() {
		largest := largestOf(b)
		expectCells(t, b, largest)
		needed, useless := cellsBy(b, largest)
		kinds[fmt.Sprint(len(needed) > 0, len(useless) > 0, len(needed)+len(useless) < len(pictureOf(b).cells()))]++
	}
	// Cells in each, in none and in some but not all come in all ways, but for cells in none alone: each of the rooks
	// that there are then stands on a cell.
	if len(kinds) != 7 {
		t.Error("kinds of cells:", kinds)
	}
	known := []struct {
		text            string
		needed, useless [][]int
	}{
		{"110/100/100", [][]int{{0, 1}}, [][]int{{0, 0}}},
		{"1", [][]int{{0, 0}}, nil},
		{"0", nil, nil},
		{"000/000", nil, nil},
		{"111", nil, nil},
		{"1/1", nil, nil},
		{"110/011/101", nil, nil},
		{"100/110/111", [][]int{{0, 0}, {1, 1}, {2, 2}}, [][]int{{1, 0}, {2, 0}, {2, 1}}},
		{"001/010/100", [][]int{{0, 2}, {1, 1}, {2, 0}}, nil},
		{"111/100/100", nil, [][]int{{0, 0}}},
	}
	for _, k := range known {
		if got, ok := impl.NeededCells(of(k.text)); !ok || !sameLists(got, k.needed) {
			t.Errorf("NeededCells %s: %v %v instead of %v", k.text, got, ok, k.needed)
		}
		if got, ok := impl.UselessCells(of(k.text)); !ok || !sameLists(got, k.useless) {
			t.Errorf("UselessCells %s: %v %v instead of %v", k.text, got, ok, k.useless)
		}
	}
}
