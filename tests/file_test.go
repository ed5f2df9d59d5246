package tests

import (
	"fmt"
	"slices"
	"testing"

	"loop.example/g01125/impl"
)

// Promise 7, function by function: each result is held against what the tests find by trying all lists, labels
// or permutations, or by doing word by word what the document tells.

// expectFiling checks IsFilePlacement for a list that may be any.
func expectFiling(t *testing.T, b impl.Board, list []int) {
	t.Helper()
	got, ok := impl.IsFilePlacement(b, list)
	told := len(list) == b.Columns
	for _, r := range list {
		told = told && r >= -1 && r < 1000
	}
	if !told {
		fails(t, fmt.Sprint("IsFilePlacement ", b, list), got, ok)
	} else if want := isFiling(pictureOf(b), list); !ok || got != want {
		t.Errorf("IsFilePlacement %v %v: %v %v instead of %v", b, list, got, ok, want)
	}
}

func TestFileIsFilePlacement(t *testing.T) {
	for rows := 1; rows <= 3; rows++ {
		for columns := 1; columns <= 3; columns++ {
			for i, b := range boardsOfSize(rows, columns) {
				if i%7 != 0 && rows+columns == 6 {
					continue
				}
				for _, list := range allLists(columns, -2, rows+1) {
					expectFiling(t, b, list)
				}
			}
		}
	}
	known := []struct {
		text string
		list []int
		want bool
	}{
		{"110/011", []int{0, 0, 1}, true}, {"110/011", []int{0, 1, 1}, true}, {"110/011", []int{1, 1, 1}, false},
		{"110/011", []int{-1, -1, -1}, true}, {"110/011", []int{-1, 0, -1}, true}, {"110/011", []int{0, 0, 0}, false},
		{"110/011", []int{0, 0, 2}, false}, {"110/011", []int{999, 0, 1}, false}, {"110/011", []int{0, 0, 999}, false},
		{"111111", []int{0, 0, 0, 0, 0, 0}, true}, {"111111", []int{0, 0, 0, 0, 0, 1}, false},
		{"1/0/1", []int{2}, true}, {"1/0/1", []int{1}, false}, {"1/0/1", []int{-1}, true}, {"0", []int{0}, false}, {"0", []int{-1}, true},
		{"010/010", []int{-1, 1, -1}, true}, {"010/010", []int{0, 1, -1}, false}, {"010/010", []int{-1, -1, -1}, true},
	}
	for _, k := range known {
		if got, ok := impl.IsFilePlacement(of(k.text), k.list); !ok || got != k.want {
			t.Errorf("IsFilePlacement %s %v: %v %v", k.text, k.list, got, ok)
		}
	}
}

// On boards of all sizes, one number after the other is one of each kind, beside rows with cells and beside -1.
func TestFileIsFilePlacementOneNumber(t *testing.T) {
	for _, b := range append(largeBoards(), mixedBoards()...) {
		p := pictureOf(b)
		none, some := make([]int, b.Columns), make([]int, b.Columns)
		for c := range some {
			none[c], some[c] = -1, -1
			for r := range p {
				if p[r][c] {
					some[c] = r
				}
			}
		}
		for _, right := range [][]int{none, some} {
			expectFiling(t, b, right)
			expectFiling(t, b, right[1:])
			expectFiling(t, b, append(slices.Clone(right), -1))
			expectFiling(t, b, append(slices.Clone(right), 0))
			for c := range right {
				for _, x := range []int{-1, 0, 1, 2, 3, 4, 5, 6, 7, 62, 63, 64, 65, 998, 999, 1000, 1001, -2, -3, -64, 1 << 32, -1 << 32, 1 << 62, -1 << 63, 1<<63 - 1} {
					list := slices.Clone(right)
					list[c] = x
					expectFiling(t, b, list)
				}
			}
		}
	}
	// A number out of the bounds makes the call fail, also where another one tells already that it is none.
	for _, list := range [][]int{{999, 1000}, {1000, 999}, {999, -2}, {-2, 999}, {1, -2}, {0, 0, 1000}, {1000}, {-2}, {999}, {999, 999, 999}, nil, {}} {
		fails(t, fmt.Sprint("IsFilePlacement ", list), both(impl.IsFilePlacement(of("11/01"), list))...)
	}
}

func TestFileNumbers(t *testing.T) {
	for _, b := range fileBoards() {
		want := filings(b)
		if got, ok := impl.FileNumbers(b); !ok || !sameList(got, want) {
			t.Errorf("FileNumbers %v: %v %v instead of %v", b, got, ok, want)
		}
	}
	known := map[string][]int{
		"1": {1, 1}, "0": {1, 0}, "1/1/1/1/1/1": {1, 6}, "0/0/0/0/0/0": {1, 0}, "111111": {1, 6, 15, 20, 15, 6, 1}, "000000": {1, 0, 0, 0, 0, 0, 0},
		"110/100/100": {1, 4, 3, 0}, "101/101": {1, 4, 4, 0}, "011/001/000": {1, 3, 2, 0}, "11/11/11": {1, 6, 9}, "111/111": {1, 6, 12, 8},
		"111111/111111/111111/111111/111111/111111": {1, 36, 540, 4320, 19440, 46656, 46656},
	}
	for text, want := range known {
		if got, ok := impl.FileNumbers(of(text)); !ok || !sameList(got, want) {
			t.Errorf("FileNumbers %s: %v %v instead of %v", text, got, ok, want)
		}
	}
}

func TestFileValue(t *testing.T) {
	for _, b := range fileBoards() {
		numbers := backwards(filings(b))
		for _, x := range []int{-100, -99, -7, -6, -5, -4, -3, -2, -1, 0, 1, 2, 3, 10, 99, 100} {
			if got, ok := impl.FileValue(b, x); !ok || got != valueAt(numbers, x) {
				t.Errorf("FileValue %v %d: %d %v instead of %d", b, x, got, ok, valueAt(numbers, x))
			}
		}
		for _, x := range wrongCounts(-100, 100) {
			if x < -100 || x > 100 {
				fails(t, fmt.Sprint("FileValue ", b, x), both(impl.FileValue(b, x))...)
			}
		}
	}
	known := []struct {
		text     string
		x, value int
	}{
		{"110/100/100", 2, 30}, {"110/100/100", 0, 0}, {"110/100/100", -1, 0}, {"110/100/100", -3, 0}, {"110/100/100", -2, 2},
		{"1", -1, 0}, {"1", 100, 101}, {"1", -100, -99}, {"0", 0, 0}, {"0", 5, 5}, {"0", -100, -100}, {"11/11", 0, 4},
		{"111111/111111/111111/111111/111111/111111", 100, 106 * 106 * 106 * 106 * 106 * 106},
		{"111111/111111/111111/111111/111111/111111", 0, 46656}, {"111111/111111/111111/111111/111111/111111", -6, 0},
		{"000000", -100, 1000000000000}, {"00000", -100, -10000000000}, {"000000", 100, 1000000000000}, {"1/1/1/1/1/1", -100, -94},
	}
	for _, k := range known {
		if got, ok := impl.FileValue(of(k.text), k.x); !ok || got != k.value {
			t.Errorf("FileValue %s %d: %d %v instead of %d", k.text, k.x, got, ok, k.value)
		}
	}
}

// stirlingCall is one of the functions of n and k, with the numbers of n = 4 and n = 10 that are known.
type stirlingCall struct {
	name  string
	call  func(n, k int) (int, bool)
	four  []int
	ten   []int
	index int
}

func stirlingCalls() []stirlingCall {
	return []stirlingCall{
		{"StirlingSecond", impl.StirlingSecond, []int{0, 1, 7, 6, 1}, []int{0, 1, 511, 9330, 34105, 42525, 22827, 5880, 750, 45, 1}, 0},
		{"StirlingFirst", impl.StirlingFirst, []int{0, 6, 11, 6, 1}, []int{0, 362880, 1026576, 1172700, 723680, 269325, 63273, 9450, 870, 45, 1}, 1},
		{"LahNumber", impl.LahNumber, []int{0, 24, 36, 12, 1}, []int{0, 3628800, 16329600, 21772800, 12700800, 3810240, 635040, 60480, 3240, 90, 1}, 2},
	}
}

func TestFileStirling(t *testing.T) {
	for _, f := range stirlingCalls() {
		for n := 0; n <= 6; n++ {
			second, first, lah := countedBlocks(n)
			for k, want := range [][]int{second, first, lah}[f.index] {
				if got, ok := f.call(n, k); !ok || got != want {
					t.Errorf("%s %d %d: %d %v instead of %d", f.name, n, k, got, ok, want)
				}
			}
		}
		for n, row := range map[int][]int{0: {1}, 1: {0, 1}, 4: f.four, 10: f.ten} {
			for k, want := range row {
				if got, ok := f.call(n, k); !ok || got != want {
					t.Errorf("%s %d %d: %d %v instead of %d", f.name, n, k, got, ok, want)
				}
			}
		}
		for n := 0; n <= 10; n++ {
			for _, k := range wrongCounts(0, n) {
				if k < 0 || k > n {
					fails(t, fmt.Sprint(f.name, " ", n, " ", k), both(f.call(n, k))...)
				}
			}
		}
		for _, n := range wrongCounts(0, 10) {
			for _, k := range []int{0, 1, 10, 11, n, n - 1, n + 1, -1, 1<<63 - 1, -1 << 63} {
				if n < 0 || n > 10 {
					fails(t, fmt.Sprint(f.name, " ", n, " ", k), both(f.call(n, k))...)
				}
			}
		}
	}
}

func TestFileArrowBoard(t *testing.T) {
	if impl.MaxThings != 6 {
		t.Error("MaxThings is", impl.MaxThings)
	}
	for n, text := range []string{"", "0", "01/00", "011/001/000", "0111/0011/0001/0000", "01111/00111/00011/00001/00000",
		"011111/001111/000111/000011/000001/000000"} {
		if n > 0 {
			b, ok := impl.ArrowBoard(n)
			expectBoard(t, fmt.Sprint("ArrowBoard ", n), of(text), b, ok)
		}
	}
	for _, n := range wrongCounts(1, 6) {
		fails(t, fmt.Sprint("ArrowBoard ", n), both(impl.ArrowBoard(n))...)
	}
}

func TestFilePartitionOf(t *testing.T) {
	for n := 1; n <= 6; n++ {
		for _, list := range arrowPlacings(n) {
			want := chained(list)
			if got, ok := impl.PartitionOf(list); !ok || !sameLists(got, want) {
				t.Errorf("PartitionOf %v: %v %v instead of %v", list, got, ok, want)
			}
		}
	}
	known := []struct {
		list []int
		text string
	}{
		{[]int{2, -1, -1}, "02|1"}, {[]int{-1}, "0"}, {[]int{-1, -1}, "0|1"}, {[]int{1, -1}, "01"}, {[]int{1, 2, 3, 4, 5, -1}, "012345"},
		{[]int{-1, -1, -1, -1, -1, -1}, "0|1|2|3|4|5"}, {[]int{5, 4, 3, -1, -1, -1}, "05|14|23"}, {[]int{-1, 3, 4, 5, -1, -1}, "0|135|24"},
		{[]int{2, 3, -1, -1}, "02|13"}, {[]int{3, 2, -1, -1}, "03|12"}, {[]int{2, -1, 3, -1}, "023|1"},
	}
	for _, k := range known {
		if got, ok := impl.PartitionOf(k.list); !ok || !sameLists(got, blocksOf(k.text)) {
			t.Errorf("PartitionOf %v: %v %v instead of %s", k.list, got, ok, k.text)
		}
	}
}

// someLists holds all lists of up to four numbers next to those of the arrow boards and out of them,
// and longer ones, in which one number is any.
func someLists() [][]int {
	var lists [][]int
	for n := 0; n <= 4; n++ {
		lists = append(lists, allLists(n, -2, 5)...)
	}
	for n := 5; n <= 6; n++ {
		for i, list := range append(arrowPlacings(n), arrowFilings(n)...) {
			for _, x := range []int{-2, -1, 0, 1, 2, 3, 4, 5, 6, 63, 64, 999, 1 << 32, 1 << 62, -1 << 63, 1<<63 - 1} {
				other := slices.Clone(list)
				other[i%n] = x
				lists = append(lists, other)
			}
		}
	}
	return append(lists, nil, []int{-1, -1, -1, -1, -1, -1, -1}, make([]int, 7), make([]int, 64), []int{1, 2, 3, 4, 5, 6, -1})
}

func TestFilePartitionOfAny(t *testing.T) {
	right := 0
	for _, list := range someLists() {
		got, ok := impl.PartitionOf(list)
		if n := len(list); n < 1 || n > 6 || !isPlacing(arrowPicture(n), list) {
			fails(t, fmt.Sprint("PartitionOf ", list), got, ok)
			continue
		}
		right++
		if !ok || !sameLists(got, chained(list)) {
			t.Errorf("PartitionOf %v: %v %v instead of %v", list, got, ok, chained(list))
		}
	}
	if right < 100 {
		t.Error("only", right, "lists are placements")
	}
	// A column that comes twice, a number that is not greater than its row, and a row of the last column.
	for _, list := range [][]int{{2, 2, -1}, {0}, {0, -1}, {1, 1}, {-1, 0}, {-1, 1}, {2, -1}, {-1, -1, 3}, {1, 2, 3}, {-1, -1, -1, -1, -1, 6}, {5, 5, -1, -1, -1, -1}} {
		fails(t, fmt.Sprint("PartitionOf ", list), both(impl.PartitionOf(list))...)
	}
}

func TestFileRooksOfPartition(t *testing.T) {
	for n := 1; n <= 6; n++ {
		for _, blocks := range partitionsOf(n) {
			want := nextOf(blocks)
			if got, ok := impl.RooksOfPartition(blocks); !ok || !sameList(got, want) {
				t.Errorf("RooksOfPartition %v: %v %v instead of %v", blocks, got, ok, want)
			}
		}
	}
	known := map[string][]int{
		"02|1": {2, -1, -1}, "0": {-1}, "01": {1, -1}, "0|1": {-1, -1}, "012345": {1, 2, 3, 4, 5, -1}, "0|1|2|3|4|5": {-1, -1, -1, -1, -1, -1},
		"05|14|23": {5, 4, 3, -1, -1, -1}, "03|1|2": {3, -1, -1, -1},
	}
	for text, want := range known {
		if got, ok := impl.RooksOfPartition(blocksOf(text)); !ok || !sameList(got, want) {
			t.Errorf("RooksOfPartition %s: %v %v instead of %v", text, got, ok, want)
		}
	}
}

func TestFileCyclesOfFiles(t *testing.T) {
	for n := 1; n <= 6; n++ {
		for _, list := range arrowFilings(n) {
			want := inserted(list)
			if got, ok := impl.CyclesOfFiles(list); !ok || !sameLists(got, want) {
				t.Errorf("CyclesOfFiles %v: %v %v instead of %v", list, got, ok, want)
			}
		}
	}
	known := []struct {
		list []int
		text string
	}{
		{[]int{-1, 0, 0}, "021"}, {[]int{-1}, "0"}, {[]int{-1, -1}, "0|1"}, {[]int{-1, 0}, "01"}, {[]int{-1, 0, 1, 2, 3, 4}, "012345"},
		{[]int{-1, 0, 0, 0, 0, 0}, "054321"}, {[]int{-1, -1, -1, -1, -1, -1}, "0|1|2|3|4|5"}, {[]int{-1, -1, 0, 1, 0, 1}, "042|153"},
		{[]int{-1, 0, 1, 0, 2, 3}, "035124"}, {[]int{-1, -1, 1, 0, 3, 1}, "034|152"},
	}
	for _, k := range known {
		if got, ok := impl.CyclesOfFiles(k.list); !ok || !sameLists(got, blocksOf(k.text)) {
			t.Errorf("CyclesOfFiles %v: %v %v instead of %s", k.list, got, ok, k.text)
		}
	}
}

func TestFileCyclesOfFilesAny(t *testing.T) {
	right := 0
	for _, list := range someLists() {
		got, ok := impl.CyclesOfFiles(list)
		if n := len(list); n < 1 || n > 6 || !isFiling(arrowPicture(n), list) {
			fails(t, fmt.Sprint("CyclesOfFiles ", list), got, ok)
			continue
		}
		right++
		if !ok || !sameLists(got, inserted(list)) {
			t.Errorf("CyclesOfFiles %v: %v %v instead of %v", list, got, ok, inserted(list))
		}
	}
	if right < 100 {
		t.Error("only", right, "lists are file placements")
	}
	// The number 0 is behind no other one, and each number only behind one that was there.
	for _, list := range [][]int{{0}, {0, 0}, {1, -1}, {-1, 1}, {-1, 2, 0}, {-1, 0, 2}, {-1, -1, 3}, {-1, 999}, {-1, -2}, {-1, -1, -1, -1, -1, 5}, {2, -1, -1}} {
		fails(t, fmt.Sprint("CyclesOfFiles ", list), both(impl.CyclesOfFiles(list))...)
	}
}

func TestFileFilesOfCycles(t *testing.T) {
	kinds := map[string]int{}
	for n := 1; n <= 6; n++ {
		for _, order := range orders(n) {
			cycles := cyclesIn(order)
			want := before(cycles)
			if got, ok := impl.FilesOfCycles(cycles); !ok || !sameList(got, want) {
				t.Errorf("FilesOfCycles %v: %v %v instead of %v", cycles, got, ok, want)
			}
			for _, block := range cycles {
				rest := block[1:]
				kinds[fmt.Sprint("rise ", slices.IsSorted(rest), ", fall ", slices.IsSorted(backwards(rest)))]++
			}
		}
	}
	// Numbers after the first one that rise, that fall, neither, and, as at most one of them, both.
	if len(kinds) != 4 {
		t.Error("kinds of cycles:", kinds)
	}
	known := map[string][]int{
		"021": {-1, 0, 0}, "012": {-1, 0, 1}, "0": {-1}, "0|1": {-1, -1}, "01": {-1, 0}, "054321": {-1, 0, 0, 0, 0, 0}, "012345": {-1, 0, 1, 2, 3, 4},
		"0|1|2|3|4|5": {-1, -1, -1, -1, -1, -1}, "042|153": {-1, -1, 0, 1, 0, 1}, "035124": {-1, 0, 1, 0, 2, 3}, "0|132": {-1, -1, 1, 1},
	}
	for text, want := range known {
		if got, ok := impl.FilesOfCycles(blocksOf(text)); !ok || !sameList(got, want) {
			t.Errorf("FilesOfCycles %s: %v %v instead of %v", text, got, ok, want)
		}
	}
}

// anyBlocks hands all lists of a few blocks, of a few numbers next to the bounds and out of them, to visit.
func anyBlocks(visit func(blocks [][]int)) {
	for _, family := range []struct{ blocks, length, most int }{{1, 5, 5}, {2, 3, 3}, {3, 2, 3}, {4, 1, 4}, {5, 1, 4}} {
		var some [][]int
		for length := 0; length <= family.length; length++ {
			some = append(some, allLists(length, -1, family.most)...)
		}
		for _, chosen := range allLists(family.blocks, 0, len(some)-1) {
			blocks := make([][]int, len(chosen))
			for i, index := range chosen {
				blocks[i] = some[index]
			}
			visit(blocks)
		}
	}
}

// blocksCall is a call of a function of blocks: either they have to rise, or they may be cycles.
type blocksCall struct {
	name string
	rise bool
	call func(p *probe, blocks [][]int) []any
}

func blocksCalls() []blocksCall {
	return []blocksCall{
		{"RooksOfPartition", true, func(p *probe, blocks [][]int) []any { return both(impl.RooksOfPartition(p.nested(blocks))) }},
		{"PartitionText", true, func(p *probe, blocks [][]int) []any { return both(impl.PartitionText(p.nested(blocks))) }},
		{"FilesOfCycles", false, func(p *probe, blocks [][]int) []any { return both(impl.FilesOfCycles(p.nested(blocks))) }},
	}
}

func TestFileAnyBlocks(t *testing.T) {
	for _, f := range blocksCalls() {
		right, wrong := 0, 0
		anyBlocks(func(blocks [][]int) {
			is := areBlocks(blocks, f.rise)
			if is {
				right++
			} else {
				wrong++
			}
			results := f.call(&probe{bare: true}, blocks)
			if results[1] != is {
				t.Errorf("%s %v: %v", f.name, blocks, results)
			} else if !is {
				fails(t, fmt.Sprint(f.name, " ", blocks), results...)
			}
		})
		if right < 20 || wrong < 20 {
			t.Errorf("%s: %d right lists of blocks, and %d wrong ones", f.name, right, wrong)
		}
	}
}

func TestFileWrongBlocks(t *testing.T) {
	for _, f := range blocksCalls() {
		for _, blocks := range wrongBlocks() {
			what := fmt.Sprint(f.name, " ", blocks)
			calm(t, what, func() { fails(t, what, f.call(&probe{bare: true}, blocks)...) })
		}
	}
	// Cycles whose numbers do not rise are no partition.
	for n := 1; n <= 6; n++ {
		for _, order := range orders(n) {
			cycles := cyclesIn(order)
			if areBlocks(cycles, true) {
				continue
			}
			fails(t, fmt.Sprint("RooksOfPartition ", cycles), both(impl.RooksOfPartition(cycles))...)
			fails(t, fmt.Sprint("PartitionText ", cycles), both(impl.PartitionText(cycles))...)
		}
	}
}

func TestFileAllPartitions(t *testing.T) {
	for n := 1; n <= 5; n++ {
		for k := 1; k <= n; k++ {
			var want [][][]int
			for _, blocks := range partitionsOf(n) {
				if len(blocks) == k {
					want = append(want, blocks)
				}
			}
			if got, ok := impl.AllPartitions(n, k); !ok || !slices.EqualFunc(got, want, sameLists) {
				t.Errorf("AllPartitions %d %d: %v %v instead of %v", n, k, got, ok, want)
			}
		}
		for _, k := range wrongCounts(1, n) {
			fails(t, fmt.Sprint("AllPartitions ", n, " ", k), both(impl.AllPartitions(n, k))...)
		}
	}
	for _, n := range wrongCounts(1, 5) {
		for _, k := range []int{0, 1, 5, 6, n, n - 1, n + 1, -1, 1<<63 - 1, -1 << 63} {
			fails(t, fmt.Sprint("AllPartitions ", n, " ", k), both(impl.AllPartitions(n, k))...)
		}
	}
	known := []struct {
		n, k  int
		texts []string
	}{
		{1, 1, []string{"0"}}, {2, 1, []string{"01"}}, {2, 2, []string{"0|1"}}, {3, 2, []string{"01|2", "02|1", "0|12"}},
		{4, 2, []string{"012|3", "013|2", "01|23", "023|1", "02|13", "03|12", "0|123"}},
		{4, 3, []string{"01|2|3", "02|1|3", "0|12|3", "03|1|2", "0|13|2", "0|1|23"}}, {5, 1, []string{"01234"}}, {5, 5, []string{"0|1|2|3|4"}},
	}
	for _, k := range known {
		var texts []string
		for _, blocks := range must(impl.AllPartitions(k.n, k.k)) {
			texts = append(texts, digits(blocks))
		}
		if !slices.Equal(texts, k.texts) {
			t.Errorf("AllPartitions %d %d: %v instead of %v", k.n, k.k, texts, k.texts)
		}
	}
}

func TestFileCountPartitions(t *testing.T) {
	for n, want := range []int{1, 1, 2, 5, 15, 52, 203, 877, 4140, 21147, 115975} {
		if n <= 6 && len(partitionsOf(n)) != want {
			t.Fatalf("%d partitions of %d are found", len(partitionsOf(n)), n)
		}
		if got, ok := impl.CountPartitions(n); !ok || got != want {
			t.Errorf("CountPartitions %d: %d %v instead of %d", n, got, ok, want)
		}
	}
	for _, n := range wrongCounts(0, 10) {
		fails(t, fmt.Sprint("CountPartitions ", n), both(impl.CountPartitions(n))...)
	}
}

// expectParsed checks ParsePartition for any text.
func expectParsed(t *testing.T, text string) bool {
	t.Helper()
	got, ok := impl.ParsePartition(text)
	is := isPartitionText(text)
	if !is {
		fails(t, fmt.Sprintf("ParsePartition %q", text), got, ok)
	} else if !ok || !sameLists(got, blocksOf(text)) {
		t.Errorf("ParsePartition %q: %v %v", text, got, ok)
	}
	return is
}

// isPartitionText reports whether a text is that of one of the partitions that the tests list.
func isPartitionText(text string) bool {
	if len(partitionTexts) == 0 {
		for n := 1; n <= 6; n++ {
			for _, blocks := range partitionsOf(n) {
				partitionTexts[digits(blocks)] = true
			}
		}
	}
	return partitionTexts[text]
}

var partitionTexts = map[string]bool{}

func TestFilePartitionText(t *testing.T) {
	for n := 1; n <= 6; n++ {
		for _, blocks := range partitionsOf(n) {
			if got, ok := impl.PartitionText(blocks); !ok || got != digits(blocks) {
				t.Errorf("PartitionText %v: %q %v instead of %q", blocks, got, ok, digits(blocks))
			}
			expectParsed(t, digits(blocks))
		}
	}
	known := map[string][][]int{
		"02|1": {{0, 2}, {1}}, "0": {{0}}, "01": {{0, 1}}, "0|1": {{0}, {1}}, "012345": {{0, 1, 2, 3, 4, 5}},
		"0|1|2|3|4|5": {{0}, {1}, {2}, {3}, {4}, {5}}, "05|14|23": {{0, 5}, {1, 4}, {2, 3}}, "0|1345|2": {{0}, {1, 3, 4, 5}, {2}},
	}
	for text, blocks := range known {
		if got, ok := impl.PartitionText(blocks); !ok || got != text {
			t.Errorf("PartitionText %v: %q %v instead of %q", blocks, got, ok, text)
		}
		if got, ok := impl.ParsePartition(text); !ok || !sameLists(got, blocks) {
			t.Errorf("ParsePartition %q: %v %v instead of %v", text, got, ok, blocks)
		}
	}
}

func TestFileParsePartition(t *testing.T) {
	// All texts of up to seven of some signs, of which a few are right.
	right := 0
	for length := 0; length <= 7; length++ {
		for _, signs := range allLists(length, 0, 4) {
			text := ""
			for _, sign := range signs {
				text += "0123|"[sign : sign+1]
			}
			if expectParsed(t, text) {
				right++
			}
		}
	}
	if right != 1+2+5+15 {
		t.Error(right, "texts are right")
	}
	wrong := []string{
		"", "|", "||", "0|", "|0", "0||1", "01||2", "|01", "01|", "|01|", "10", "1|0", "1", "2", "6", "00", "0|0", "01|1", "02", "0|2", "021", "0|21",
		"0123456", "0|1|2|3|4|5|6", "012345|6", "0123456|", "0|1|2|3|4|5|", "|0|1|2|3|4|5", "0|1|2|3|4||5", "0|1|2|3|4|6", "012346", "0123455", "012344",
		"0 1", " 0", "0 ", "0,1", "0/1", "0-1", "-1", "+0", "a", "0a", "0|a", "0\n", "\x00", "0\x00", "0|\x00", "0\x7f1", "\xff", "0\xb11", "٠", "0|١", "0¦1", "0｜1", "０",
		"0|1:", "0|1|2|3|4|5\n", "00|1", "01|2|2", "01|02",
	}
	for _, text := range wrong {
		if expectParsed(t, text) {
			t.Errorf("%q is the text of a partition", text)
		}
	}
}

// Each sign of a text, one after the other, becomes each other one, is left out, or comes twice.
func TestFileParsePartitionOneSign(t *testing.T) {
	for n := 1; n <= 6; n++ {
		for i, blocks := range partitionsOf(n) {
			if n == 6 && i%9 != 0 {
				continue
			}
			text := digits(blocks)
			for at := 0; at <= len(text); at++ {
				for sign := 0; sign < 256; sign++ {
					expectParsed(t, text[:at]+string([]byte{byte(sign)})+text[at:])
					if at < len(text) {
						expectParsed(t, text[:at]+string([]byte{byte(sign)})+text[at+1:])
					}
				}
				if at < len(text) {
					expectParsed(t, text[:at]+text[at+1:])
				}
			}
		}
	}
}
