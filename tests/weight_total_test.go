package tests

import (
	"fmt"
	"testing"

	"loop.example/g01125/impl"
)

// Promise 11 for chapter 5: no call panics, none modifies an argument, and failing calls return zeros.

// weightCalls holds, for each function that takes lengths, calls that succeed for the lengths 1 2.
func weightCalls() []listCall {
	calls := []listCall{
		{"AllWeights", func(p *probe, l []int) []any { return both(impl.AllWeights(p.list(l))) }},
		freeCall([]int{-1, -1}), freeCall([]int{0, -1}), freeCall([]int{-1, 0}), freeCall([]int{0, 1}),
	}
	for k := 0; k <= 2; k++ {
		calls = append(calls, listCall{fmt.Sprint("WeightsOf ", k), func(p *probe, l []int) []any {
			return both(impl.WeightsOf(p.list(l), k))
		}})
	}
	for q := 2; q <= 3; q++ {
		calls = append(calls,
			listCall{fmt.Sprint("WeightAt ", q), func(p *probe, l []int) []any { return both(impl.WeightAt(p.list(l), 1, q)) }},
			listCall{fmt.Sprint("RankCounts ", q), func(p *probe, l []int) []any { return both(impl.RankCounts(p.list(l), q)) }},
			listCall{fmt.Sprint("RankCountsPlain ", q), func(p *probe, l []int) []any { return both(impl.RankCountsPlain(p.list(l), q)) }},
		)
		for _, x := range []int{2, 4, 8} {
			calls = append(calls,
				listCall{fmt.Sprint("WeightedSumAt ", q, x), func(p *probe, l []int) []any { return both(impl.WeightedSumAt(p.list(l), q, x)) }},
				listCall{fmt.Sprint("WeightedProductAt ", q, x), func(p *probe, l []int) []any { return both(impl.WeightedProductAt(p.list(l), q, x)) }},
			)
		}
		for _, number := range []int{0, 1, 5, 7} {
			calls = append(calls, listCall{fmt.Sprint("MatrixWith ", q, number), func(p *probe, l []int) []any {
				return both(impl.MatrixWith(p.list(l), q, number))
			}})
		}
		for _, rows := range [][][]int{{{0, 0}, {0, 0}}, {{1, 0}, {1, 1}}, {{1, 1}, {1, 1}}, {{0}}, {{1, 2}, {3}}, nil} {
			calls = append(calls, fitsCall(rows, q))
		}
	}
	return calls
}

// freeCall is a call of FreeCells with a placement.
func freeCall(list []int) listCall {
	return listCall{fmt.Sprint("FreeCells ", list), func(p *probe, l []int) []any {
		return both(impl.FreeCells(p.list(l), p.list(list)))
	}}
}

// fitsCall is a call of FitsBoard with rows.
func fitsCall(rows [][]int, q int) listCall {
	return listCall{fmt.Sprint("FitsBoard ", len(rows), " rows ", q), func(p *probe, l []int) []any {
		return both(impl.FitsBoard(p.list(l), p.nested(rows), q))
	}}
}

// rowCall is a call of one function of rows.
type rowCall struct {
	name string
	call func(p *probe, rows [][]int) []any
}

// rowCalls holds the calls of the functions that take rows alone.
func rowCalls(q int) []rowCall {
	return []rowCall{
		{fmt.Sprint("RankModulo ", q), func(p *probe, rows [][]int) []any { return both(impl.RankModulo(p.nested(rows), q)) }},
		{fmt.Sprint("LeadsOf ", q), func(p *probe, rows [][]int) []any { return both(impl.LeadsOf(p.nested(rows), q)) }},
	}
}

func TestWeightTotalWrongLengths(t *testing.T) {
	for _, f := range weightCalls() {
		if results := f.call(&probe{}, []int{1, 2}); results[1] != true {
			t.Errorf("%s: fails for right lengths", f.name)
		}
		for _, list := range wrongLengths() {
			p := &probe{}
			what := fmt.Sprint(f.name, " ", list)
			calm(t, what, func() { fails(t, what, f.call(p, list)...) })
			if p.changed() {
				t.Errorf("%s: an argument was modified", what)
			}
		}
	}
}

// Two wrong arguments fail as one does.
func TestWeightTotalTwoWrongArguments(t *testing.T) {
	for _, list := range wrongLengths() {
		if len(list) > 8 {
			continue
		}
		none := make([]int, len(list))
		for i := range none {
			none[i] = -1
		}
		for _, placement := range [][]int{nil, none, list, {-1, -1, -1, -1, -1, -1}} {
			fails(t, fmt.Sprint("FreeCells ", list), both(impl.FreeCells(list, placement))...)
		}
		for _, x := range []int{-1 << 63, -1, 0, 1, 2, 6, 7, 8, 9, 1<<63 - 1} {
			for _, q := range []int{-1, 0, 1, 2, 3, 4} {
				what := fmt.Sprint("with ", list, x, q)
				fails(t, what, both(impl.WeightsOf(list, x))...)
				fails(t, what, both(impl.WeightAt(list, x, q))...)
				fails(t, what, both(impl.WeightedSumAt(list, q, x))...)
				fails(t, what, both(impl.WeightedProductAt(list, q, x))...)
				fails(t, what, both(impl.RankCounts(list, q))...)
				fails(t, what, both(impl.RankCountsPlain(list, q))...)
				fails(t, what, both(impl.MatrixWith(list, q, x))...)
				fails(t, what, both(impl.FitsBoard(list, [][]int{none}, q))...)
				fails(t, what, both(impl.FitsBoard(list, rowsOf(make([]int, len(list)*len(list)), max(1, len(list))), q))...)
			}
		}
	}
	for _, q := range wrongModuli() {
		for _, rows := range wrongRows(2) {
			fails(t, fmt.Sprint("RankModulo, wrong rows, ", q), both(impl.RankModulo(rows, q))...)
			fails(t, fmt.Sprint("LeadsOf, wrong rows, ", q), both(impl.LeadsOf(rows, q))...)
			fails(t, fmt.Sprint("FitsBoard, wrong rows, ", q), both(impl.FitsBoard([]int{1}, rows, q))...)
		}
	}
}

func TestWeightTotalMemory(t *testing.T) {
	for _, f := range weightCalls() {
		for i, lengths := range append(allLengthLists(), wrongLengths()...) {
			if len(lengths) < 4 || i%23 == 0 || together(lengths) > 30 {
				checkMemory(t, fmt.Sprint(f.name, " ", lengths), func(p *probe) []any { return f.call(p, lengths) })
			}
		}
	}
	for _, lengths := range append(lengthLists(3), lengthLists(6)[917:]...) {
		for _, list := range append(wrongPlacings(pictureOfLengths(lengths).board()), allLists(3, -1, 2)...) {
			f := freeCall(list)
			checkMemory(t, fmt.Sprint(f.name, " ", lengths), func(p *probe) []any { return f.call(p, lengths) })
		}
		for k := 0; k <= len(lengths); k++ {
			checkMemory(t, fmt.Sprint("WeightsOf ", lengths, k), func(p *probe) []any { return both(impl.WeightsOf(p.list(lengths), k)) })
		}
	}
	for n := 1; n <= 5; n++ {
		for q := 2; q <= 3; q++ {
			checkMemory(t, fmt.Sprint("InvertibleCount ", n, q), func(p *probe) []any { return both(impl.InvertibleCount(n, q)) })
			checkMemory(t, fmt.Sprint("BracketOf ", 4*n, q), func(p *probe) []any { return both(impl.BracketOf(4*n, q)) })
		}
	}
}

func TestWeightTotalMemoryOfRows(t *testing.T) {
	for q := 2; q <= 3; q++ {
		for i, rows := range append(append(largeRows(q), wrongRows(q)...), smallRows(q)...) {
			if i%13 > 0 && i > 3000 || len(rows) > 64 {
				continue
			}
			for _, f := range rowCalls(q) {
				checkMemory(t, fmt.Sprint(f.name, " ", rows), func(p *probe) []any { return f.call(p, rows) })
			}
			f := fitsCall(rows, q)
			checkMemory(t, fmt.Sprint(f.name, " ", rows), func(p *probe) []any { return f.call(p, fullLengths(max(1, min(6, len(rows))))) })
		}
		for i, lengths := range listedLengths(q) {
			if i%9 == 0 {
				count := raised(q, together(lengths))
				for _, number := range []int{0, count / 3, count - 1, count} {
					checkMemory(t, fmt.Sprint("MatrixWith ", lengths, q, number), func(p *probe) []any {
						return both(impl.MatrixWith(p.list(lengths), q, number))
					})
				}
			}
		}
	}
}

// All rows may be one memory, and that of the lengths, too.
func TestWeightTotalOneMemory(t *testing.T) {
	same := []int{1, 2, 2}
	rows := [][]int{same, same, same}
	if n, ok := impl.RankModulo(rows, 3); !ok || n != 1 {
		t.Errorf("RankModulo of one row three times: %d %v", n, ok)
	}
	if leads, ok := impl.LeadsOf(rows, 3); !ok || !sameList(leads, []int{0, -1, -1}) {
		t.Errorf("LeadsOf one row three times: %v %v", leads, ok)
	}
	if fits, ok := impl.FitsBoard(same, rows, 3); !ok || fits {
		t.Errorf("FitsBoard, the lengths as rows: %v %v", fits, ok)
	}
	if !sameList(same, []int{1, 2, 2}) {
		t.Errorf("the row is %v now", same)
	}
	zeros := []int{0, 0}
	if fits, ok := impl.FitsBoard(zeros, [][]int{zeros, zeros}, 2); !ok || !fits {
		t.Errorf("FitsBoard, zeros: %v %v", fits, ok)
	}
	fails(t, "FreeCells, the lengths as a placement", both(impl.FreeCells(same, same))...)
	// Rows may be parts of one list, so that each one has the next one behind it.
	long := []int{1, 0, 0, 1, 1, 1}
	parts := [][]int{long[:2], long[2:4], long[4:]}
	if leads, ok := impl.LeadsOf(parts, 2); !ok || !sameList(leads, []int{0, 1, -1}) || !sameList(long, []int{1, 0, 0, 1, 1, 1}) {
		t.Errorf("LeadsOf parts of one list: %v %v, %v", leads, ok, long)
	}
}

func TestWeightTotalStrangeNumbers(t *testing.T) {
	for _, x := range append(strangeNumbers(), 2, 3, 4, 8, 9, 20, 21) {
		for _, y := range append(strangeNumbers(), 2, 3, 4, 8, 9) {
			calm(t, fmt.Sprint("with ", x, y), func() { strangeWeights(t, x, y) })
			for _, list := range [][]int{{x}, {x, y}, {x, x, y, y}, {0, 0, 0, 0, x, y}, {x, 0, 1, 2, 3, y}, {x, x, x, x, x, x, y}} {
				calm(t, fmt.Sprint("with ", list), func() { strangeLengths(t, list) })
			}
		}
	}
}

// knowsZeros checks that results are zero exactly where the call should fail.
func knowsZeros(t *testing.T, what string, want bool, results []any) {
	t.Helper()
	if results[len(results)-1] != want {
		t.Errorf("%s: %v", what, results)
	} else if !want {
		fails(t, what, results...)
	}
}

// strangeWeights makes the calls that take numbers, with two of them.
func strangeWeights(t *testing.T, x, y int) {
	t.Helper()
	what := fmt.Sprint(" ", x, " ", y)
	is := y == 2 || y == 3
	knowsZeros(t, "BracketOf"+what, is && x >= 0 && x <= 20, both(impl.BracketOf(x, y)))
	knowsZeros(t, "InvertibleCount"+what, is && x >= 1 && x <= 5, both(impl.InvertibleCount(x, y)))
	for _, lengths := range [][]int{{0}, {1}, {1, 2}, {0, 0, 4, 4}, {0, 0, 0, 0, 6, 6}, {6, 6, 6, 6, 6, 6}} {
		n, cells := len(lengths), together(lengths)
		about := fmt.Sprint(what, " ", lengths)
		listed := is && raised(y, cells) <= 6561
		knowsZeros(t, "WeightsOf"+about, x >= 0 && x <= n, both(impl.WeightsOf(lengths, x)))
		knowsZeros(t, "WeightAt"+about, is && x >= 0 && x <= n, both(impl.WeightAt(lengths, x, y)))
		knowsZeros(t, "WeightedSumAt"+about, is && n <= 4 && x >= n && x <= 8, both(impl.WeightedSumAt(lengths, y, x)))
		knowsZeros(t, "WeightedProductAt"+about, is && n <= 4 && x >= n && x <= 8, both(impl.WeightedProductAt(lengths, y, x)))
		knowsZeros(t, "RankCounts"+about, is && cells <= 20, both(impl.RankCounts(lengths, y)))
		knowsZeros(t, "RankCountsPlain"+about, listed, both(impl.RankCountsPlain(lengths, y)))
		knowsZeros(t, "MatrixWith"+about, listed && x >= 0 && x < raised(y, cells), both(impl.MatrixWith(lengths, y, x)))
		fits, ok := impl.FitsBoard(lengths, [][]int{{x}}, y)
		if ok != is || fits != (is && n == 1 && (x == 0 || cells == 1 && x > 0 && x < y)) {
			t.Errorf("FitsBoard%s: %v %v", about, fits, ok)
		}
	}
	for _, rows := range [][][]int{{{x}}, {{0, x}, {x, 1}}, {{1, 1, 1}, {x, x, x}}} {
		for _, f := range rowCalls(y) {
			knowsZeros(t, fmt.Sprint(f.name, rows), is && x >= 0 && x < y, f.call(&probe{}, rows))
		}
	}
}

// strangeLengths makes the calls that take lengths, with a list that may be any.
func strangeLengths(t *testing.T, list []int) {
	t.Helper()
	n := len(list)
	is := n <= 6 && doesNotFall(list) && list[0] >= 0 && list[n-1] <= n
	none := make([]int, n)
	for i := range none {
		none[i] = -1
	}
	what := fmt.Sprint(" ", list)
	knowsZeros(t, "FreeCells"+what, is, both(impl.FreeCells(list, none)))
	knowsZeros(t, "WeightsOf"+what, is, both(impl.WeightsOf(list, 1)))
	knowsZeros(t, "AllWeights"+what, is, both(impl.AllWeights(list)))
	knowsZeros(t, "WeightAt"+what, is, both(impl.WeightAt(list, 0, 3)))
	knowsZeros(t, "WeightedSumAt"+what, is && n <= 4, both(impl.WeightedSumAt(list, 2, 8)))
	knowsZeros(t, "WeightedProductAt"+what, is && n <= 4, both(impl.WeightedProductAt(list, 3, 8)))
	knowsZeros(t, "RankCounts"+what, is && together(list) <= 20, both(impl.RankCounts(list, 3)))
	knowsZeros(t, "RankCountsPlain"+what, is && together(list) <= 8, both(impl.RankCountsPlain(list, 3)))
	knowsZeros(t, "MatrixWith"+what, is && together(list) <= 12, both(impl.MatrixWith(list, 2, 0)))
	knowsZeros(t, "FitsBoard"+what, is, both(impl.FitsBoard(list, [][]int{list}, 2)))
	// The list as a placement on all cells.
	if n <= 6 {
		full := draw(n, n, func(r, c int) bool { return true })
		knowsZeros(t, "FreeCells, placed"+what, isPlacing(full, list), both(impl.FreeCells(fullLengths(n), list)))
	}
}

// Lists far over any limit end in a failure.
func TestWeightTotalLongLists(t *testing.T) {
	long := make([]int, 100000)
	for _, f := range weightCalls() {
		fails(t, f.name+", a long list", f.call(&probe{}, long)...)
	}
	fails(t, "FreeCells, a long placement", both(impl.FreeCells([]int{1, 2}, long))...)
	for i := range long {
		long[i] = i
	}
	for _, f := range weightCalls() {
		fails(t, f.name+", a long list that grows", f.call(&probe{}, long)...)
	}
	for i := range long {
		long[i] = -1
	}
	fails(t, "FreeCells, a long placement without rooks", both(impl.FreeCells([]int{1, 2}, long))...)
	many := rowsOf(make([]int, 100000), 2)
	for _, f := range rowCalls(2) {
		fails(t, f.name+", many rows", f.call(&probe{}, many)...)
		fails(t, f.name+", a long row", f.call(&probe{}, [][]int{make([]int, 100000)})...)
	}
	expectFit(t, []int{1, 2}, many, 2, false)
	expectFit(t, []int{1, 2}, [][]int{{0, 0}, make([]int, 100000)}, 2, false)
}
