package tests

import (
	"fmt"
	"slices"
	"sort"
	"testing"

	"loop.example/g01125/impl"
)

// Promise 6: a largest placement has as many rooks as a least cover has lines, and is reached by longer ways.

// lawBoards holds all boards of up to 12 cells, and those on which the functions are tried one by one.
func lawBoards() []impl.Board {
	list := coverBoards()
	for _, size := range [][2]int{{1, 4}, {1, 5}, {1, 6}, {2, 4}, {2, 5}, {2, 6}, {3, 4}} {
		list = append(list, boardsOfSize(size[0], size[1])...)
		list = append(list, boardsOfSize(size[1], size[0])...)
	}
	for _, l := range limitBoards() {
		list = append(list, of(l.text))
	}
	return list
}

// linesIn counts the lines of a cover.
func linesIn(l impl.Lines) int {
	return len(l.Rows) + len(l.Columns)
}

func TestCoverLawsOfSizes(t *testing.T) {
	for _, b := range lawBoards() {
		most := must(impl.MostRooks(b))
		first := must(impl.LargestPlacement(b))
		cover := must(impl.LeastCover(b))
		if !must(impl.IsPlacement(b, first)) || must(impl.CountRooks(first)) != most {
			t.Errorf("%v: %v is no placement with %d rooks", b, first, most)
		}
		if !must(impl.IsCover(b, cover)) || linesIn(cover) != most {
			t.Errorf("%v: %v is no cover with %d lines", b, cover, most)
		}
		if lack := must(impl.LackOf(b)); lack != b.Rows-most {
			t.Errorf("%v: the lack is %d, and at most %d rooks", b, lack, most)
		}
		// Each rook stands in just one of the lines, and each line has a rook.
		for r, c := range first {
			if c != -1 && slices.Contains(cover.Rows, r) == slices.Contains(cover.Columns, c) {
				t.Errorf("%v: the rook in the row %d of %v and the cover %v", b, r, first, cover)
			}
		}
	}
}

func TestCoverLawsOfAllLargest(t *testing.T) {
	told, not := 0, 0
	for _, b := range lawBoards() {
		most := must(impl.MostRooks(b))
		count := must(impl.RookNumbers(b))[most]
		lists, ok := impl.AllLargest(b)
		if ok != (count <= impl.MaxPlacings) {
			t.Errorf("%v: %d largest placements, %v", b, count, ok)
		}
		if !ok {
			not++
			continue
		}
		told++
		if len(lists) != count || !sameList(lists[0], must(impl.LargestPlacement(b))) {
			t.Errorf("%v: %d largest placements instead of %d, the first one %v", b, len(lists), count, lists[0])
		}
		for i, list := range lists {
			if !must(impl.IsPlacement(b, list)) || must(impl.CountRooks(list)) != most {
				t.Errorf("%v: %v is no placement with %d rooks", b, list, most)
			}
			if i > 0 && !comesBefore(behindColumns(lists[i-1]), behindColumns(list)) {
				t.Errorf("%v: %v before %v", b, lists[i-1], list)
			}
		}
		needed, useless := cellsBy(b, lists)
		if !sameLists(must(impl.NeededCells(b)), needed) || !sameLists(must(impl.UselessCells(b)), useless) {
			t.Errorf("%v: the cells needed are not %v, or those useless not %v", b, needed, useless)
		}
	}
	if told == 0 || not == 0 {
		t.Error("all largest placements are told of", told, "boards and not of", not)
	}
}

// coverBefore tells the order of covers: fewer rows first, and then the lexicographically lesser ones.
func coverBefore(a, b impl.Lines) bool {
	if len(a.Rows) != len(b.Rows) {
		return len(a.Rows) < len(b.Rows)
	}
	return comesBefore(a.Rows, b.Rows)
}

func TestCoverLawsOfCovers(t *testing.T) {
	for _, b := range lawBoards() {
		all := must(impl.AllCovers(b))
		least := must(impl.LeastCover(b))
		if len(all) == 0 || !sameLines(all[0], least) {
			t.Errorf("%v: the least cover %v is not the first one of %v", b, least, all)
			continue
		}
		for j, l := range all {
			if !must(impl.IsCover(b, l)) || linesIn(l) != linesIn(least) {
				t.Errorf("%v: %v is no least cover", b, l)
			}
			if j > 0 && !coverBefore(all[j-1], l) {
				t.Errorf("%v: the cover %v before %v", b, all[j-1], l)
			}
			// The columns are those of all other rows, none more.
			var others []int
			for r := 0; r < b.Rows; r++ {
				if !slices.Contains(l.Rows, r) {
					others = append(others, r)
				}
			}
			if !sameList(must(impl.ColumnsOf(b, others)), l.Columns) {
				t.Errorf("%v: the cover %v has not the columns of the rows %v", b, l, others)
			}
		}
		noOtherCovers(t, b, all)
	}
}

// noOtherCovers checks that no lines cover a board which are fewer than those of the covers in a list, or as many but not in it.
func noOtherCovers(t *testing.T, b impl.Board, all []impl.Lines) {
	t.Helper()
	for _, rows := range linesAmong(b.Rows) {
		for _, columns := range linesAmong(b.Columns) {
			l := impl.Lines{Rows: rows, Columns: columns}
			if linesIn(l) > linesIn(all[0]) {
				continue
			}
			listed := slices.ContainsFunc(all, func(other impl.Lines) bool { return sameLines(l, other) })
			if must(impl.IsCover(b, l)) != listed {
				t.Errorf("%v: %v covers it, or not, and is not among %v, or is", b, l, all)
			}
		}
	}
}

func TestCoverLawsOfRows(t *testing.T) {
	for _, b := range lawBoards() {
		refusing, ok := impl.RefusingRows(b)
		lack := must(impl.LackOf(b))
		full := must(impl.MostRooks(b)) == b.Rows
		if ok != (lack > 0) || ok == full {
			t.Errorf("%v: rows refuse %v, the lack is %d, and some placement has a column for each row: %v", b, ok, lack, full)
		}
		greatest := 0
		var first []int
		for _, rows := range linesAmong(b.Rows) {
			more := len(rows) - len(must(impl.ColumnsOf(b, rows)))
			greatest = max(greatest, more)
			if more > 0 && first == nil {
				first = rows
			}
		}
		if greatest != lack || !sameList(first, refusing) {
			t.Errorf("%v: the lack is %d, not %d, and the rows %v refuse, not %v", b, greatest, lack, first, refusing)
		}
	}
}

// filled is what of a placement has a rook: the rows, and the columns.
func filled(list []int) (rows, columns []int) {
	for r, c := range list {
		if c != -1 {
			rows, columns = append(rows, r), append(columns, c)
		}
	}
	sort.Ints(columns)
	return rows, columns
}

func TestCoverLawsOfWays(t *testing.T) {
	for _, b := range lawBoards() {
		most := must(impl.MostRooks(b))
		for _, list := range someOf(b) {
			size := must(impl.CountRooks(list))
			way, ok := impl.LongerWay(b, list)
			if ok != (size < most) {
				t.Errorf("%v: a longer way for %v: %v", b, list, ok)
			}
			if ok {
				wayLaw(t, b, list, way)
			} else {
				fails(t, fmt.Sprint("LongerWay ", b, list), way, ok)
			}
		}
	}
}

// wayLaw checks that a way goes from a row without a column to a column without a row, by the rooks of a list,
// that no such way has fewer numbers, and that it leaves a placement of one rook more.
func wayLaw(t *testing.T, b impl.Board, list, way []int) {
	t.Helper()
	p := pictureOf(b)
	end := len(way) - 1
	right := end > 0 && end%2 == 1 && list[way[0]] == -1 && !slices.Contains(list, way[end])
	for i := 0; right && i < end; i += 2 {
		right = p[way[i]][way[i+1]] && (i == 0 || list[way[i]] == way[i-1])
	}
	if !right || len(way) != fewestSteps(p, list) {
		t.Errorf("%v: the way %v for %v, and %d numbers at least", b, way, list, fewestSteps(p, list))
		return
	}
	longer, ok := impl.FollowWay(b, list, way)
	if !ok || !must(impl.IsPlacement(b, longer)) || must(impl.CountRooks(longer)) != must(impl.CountRooks(list))+1 {
		t.Errorf("%v: the way %v for %v leaves %v %v", b, way, list, longer, ok)
		return
	}
	// The row at the beginning and the column at the end have a rook now, and all others have what they had.
	rows, columns := filled(list)
	rows, columns = append(rows, way[0]), append(columns, way[end])
	sort.Ints(rows)
	sort.Ints(columns)
	nowRows, nowColumns := filled(longer)
	if !sameList(rows, nowRows) || !sameList(columns, nowColumns) {
		t.Errorf("%v: %v by the way %v is %v", b, list, way, longer)
	}
}

// Ways that are followed, one after the other, lead from no rooks to a largest placement.
func TestCoverLawsOfReaching(t *testing.T) {
	for _, b := range lawBoards() {
		list := make([]int, b.Rows)
		for r := range list {
			list[r] = -1
		}
		ways := 0
		for way, ok := impl.LongerWay(b, list); ok; way, ok = impl.LongerWay(b, list) {
			ways++
			if list, ok = impl.FollowWay(b, list, way); !ok || ways > 6 {
				t.Fatalf("%v: the way %v leads nowhere", b, way)
			}
		}
		if ways != must(impl.MostRooks(b)) || must(impl.CountRooks(list)) != ways {
			t.Errorf("%v: %d ways lead to %v", b, ways, list)
		}
	}
}

// A cell is needed if there are fewer rooks without it, and useless if there are fewer with it. That is so, too,
// where there are too many largest placements to tell.
func TestCoverLawsOfCells(t *testing.T) {
	for _, b := range lawBoards() {
		most := must(impl.MostRooks(b))
		var needed, useless [][]int
		for _, cell := range must(impl.CellsOf(b)) {
			without, behind, ok := impl.NumbersByCell(b, cell[0], cell[1])
			if !ok {
				t.Fatalf("%v has no cell %v", b, cell)
			}
			if len(cut(without))-1 < most {
				needed = append(needed, cell)
			}
			if len(cut(behind)) < most {
				useless = append(useless, cell)
			}
		}
		if got := must(impl.NeededCells(b)); !sameLists(got, needed) {
			t.Errorf("%v: the cells needed are %v, not %v", b, got, needed)
		}
		if got := must(impl.UselessCells(b)); !sameLists(got, useless) {
			t.Errorf("%v: the cells useless are %v, not %v", b, got, useless)
		}
	}
}

// turnedCells exchanges the rows and columns of cells.
func turnedCells(cells [][]int) [][]int {
	var list [][]int
	for _, cell := range cells {
		list = append(list, []int{cell[1], cell[0]})
	}
	sort.Slice(list, func(i, j int) bool { return comesBefore(list[i], list[j]) })
	return list
}

func TestCoverLawsOfTurns(t *testing.T) {
	for _, b := range lawBoards() {
		turned := must(impl.TurnBoard(b))
		if must(impl.LackOf(turned))-b.Columns != must(impl.LackOf(b))-b.Rows {
			t.Errorf("%v: the lack of the turned board", b)
		}
		var swapped []impl.Lines
		for _, l := range must(impl.AllCovers(b)) {
			swapped = append(swapped, impl.Lines{Rows: l.Columns, Columns: l.Rows})
		}
		sort.Slice(swapped, func(i, j int) bool { return coverBefore(swapped[i], swapped[j]) })
		if !sameCovers(must(impl.AllCovers(turned)), swapped) {
			t.Errorf("%v: the covers of the turned board are not %v", b, swapped)
		}
		if !sameLists(must(impl.NeededCells(turned)), turnedCells(must(impl.NeededCells(b)))) {
			t.Errorf("%v: the cells needed on the turned board", b)
		}
		if !sameLists(must(impl.UselessCells(turned)), turnedCells(must(impl.UselessCells(b)))) {
			t.Errorf("%v: the useless cells on the turned board", b)
		}
		lists, ok := impl.AllLargest(b)
		others, okTurned := impl.AllLargest(turned)
		if ok != okTurned || len(lists) != len(others) {
			t.Errorf("%v: %d largest placements, and %d turned", b, len(lists), len(others))
		}
		for _, list := range lists {
			there := must(impl.TurnPlacement(b, list))
			if _, longer := impl.LongerWay(turned, there); longer {
				t.Errorf("%v: %v turned is not largest", b, list)
			}
		}
	}
}
