package tests

import (
	"fmt"
	"slices"
	"strings"
	"testing"

	"loop.example/g01125/impl"
)

// Promise 11 for chapter 7: no call panics, none modifies an argument, and failing calls return zeros.

// filingCall is a call of IsFilePlacement with a list.
func filingCall(list []int) boardCall {
	return boardCall{fmt.Sprint("IsFilePlacement ", list), func(p *probe, b impl.Board) []any {
		return both(impl.IsFilePlacement(p.board(b), p.list(list)))
	}}
}

// fileCalls holds, for each function that takes a board, calls that succeed for the board 11/01.
func fileCalls() []boardCall {
	calls := []boardCall{{"FileNumbers", func(p *probe, b impl.Board) []any { return both(impl.FileNumbers(p.board(b))) }}}
	for _, x := range []int{-100, -2, -1, 0, 1, 100} {
		calls = append(calls, boardCall{fmt.Sprint("FileValue ", x), func(p *probe, b impl.Board) []any {
			return both(impl.FileValue(p.board(b), x))
		}})
	}
	for _, list := range [][]int{{-1, -1}, {0, 1}, {0, 0}, {1, 1}, {2, -1}, {999, 999}, {63, 64}} {
		calls = append(calls, filingCall(list))
	}
	return calls
}

// arrowCalls holds the calls of the functions that take a list for an arrow board.
func arrowCalls() []listCall {
	return []listCall{
		{"PartitionOf", func(p *probe, l []int) []any { return both(impl.PartitionOf(p.list(l))) }},
		{"CyclesOfFiles", func(p *probe, l []int) []any { return both(impl.CyclesOfFiles(p.list(l))) }},
	}
}

// fileNumberCalls holds the calls of the functions that take numbers alone, with k as 0 or 1 and as n.
func fileNumberCalls() []numberCall {
	return []numberCall{
		{"StirlingSecond 0", 0, 10, func(n int) []any { return both(impl.StirlingSecond(n, 0)) }},
		{"StirlingSecond n", 0, 10, func(n int) []any { return both(impl.StirlingSecond(n, n)) }},
		{"StirlingFirst 0", 0, 10, func(n int) []any { return both(impl.StirlingFirst(n, 0)) }},
		{"StirlingFirst n", 0, 10, func(n int) []any { return both(impl.StirlingFirst(n, n)) }},
		{"LahNumber 0", 0, 10, func(n int) []any { return both(impl.LahNumber(n, 0)) }},
		{"LahNumber n", 0, 10, func(n int) []any { return both(impl.LahNumber(n, n)) }},
		{"ArrowBoard", 1, 6, func(n int) []any { return both(impl.ArrowBoard(n)) }},
		{"AllPartitions 1", 1, 5, func(n int) []any { return both(impl.AllPartitions(n, 1)) }},
		{"AllPartitions n", 1, 5, func(n int) []any { return both(impl.AllPartitions(n, n)) }},
		{"CountPartitions", 0, 10, func(n int) []any { return both(impl.CountPartitions(n)) }},
	}
}

func TestFileTotalWrongBoards(t *testing.T) {
	checkWrongBoards(t, fileCalls())
	for _, b := range wrongBoards() {
		// A list as long as there are columns is no file placement on what is no board, and nor is a wrong list.
		for _, length := range []int{0, len(b.Cells), b.Columns} {
			if length >= 0 && length <= 64 {
				list := make([]int, length)
				fails(t, fmt.Sprint("IsFilePlacement ", b), both(impl.IsFilePlacement(b, list))...)
				for c := range list {
					list[c] = -1
				}
				fails(t, fmt.Sprint("IsFilePlacement ", b), both(impl.IsFilePlacement(b, list))...)
			}
		}
		for _, x := range []int{-1 << 63, -101, 101, 1<<63 - 1} {
			fails(t, fmt.Sprint("FileValue ", b, x), both(impl.FileValue(b, x))...)
			fails(t, fmt.Sprint("IsFilePlacement ", b, x), both(impl.IsFilePlacement(b, []int{x, x}))...)
		}
	}
}

func TestFileTotalMemory(t *testing.T) {
	checkCallMemory(t, fileCalls())
	for _, b := range append(largeBoards(), wrongBoards()...) {
		for _, length := range []int{b.Columns - 1, b.Columns, b.Columns + 1} {
			for _, x := range []int{-2, -1, 0, 5, 999, 1000} {
				if length < 0 || length > 8 {
					continue
				}
				list := make([]int, length)
				for c := range list {
					list[c] = -1
				}
				if length > 0 {
					list[length/2] = x
				}
				f := filingCall(list)
				checkMemory(t, fmt.Sprint(f.name, " ", b), func(p *probe) []any { return f.call(p, b) })
			}
		}
	}
}

// Right lists and wrong ones, for each function of a list.
func TestFileTotalMemoryOfLists(t *testing.T) {
	for _, f := range arrowCalls() {
		for n := 1; n <= 6; n++ {
			for i, list := range append(arrowPlacings(n), arrowFilings(n)...) {
				if n < 5 || i%11 == 0 {
					checkMemory(t, fmt.Sprint(f.name, " ", list), func(p *probe) []any { return f.call(p, list) })
				}
			}
		}
		for i, list := range someLists() {
			if i%37 == 0 {
				checkMemory(t, fmt.Sprint(f.name, " ", list), func(p *probe) []any { return f.call(p, list) })
			}
		}
		for _, list := range [][]int{nil, {-1}, {0}, {-1, -1, -1, -1, -1, -1}, {-1, -1, -1, -1, -1, -1, -1}} {
			checkMemory(t, fmt.Sprint(f.name, " ", list), func(p *probe) []any { return f.call(p, list) })
		}
	}
}

func TestFileTotalMemoryOfBlocks(t *testing.T) {
	for _, f := range blocksCalls() {
		for n := 1; n <= 6; n++ {
			for i, order := range orders(n) {
				if cycles := cyclesIn(order); n < 5 || i%11 == 0 {
					checkMemory(t, fmt.Sprint(f.name, " ", cycles), func(p *probe) []any { return f.call(p, cycles) })
				}
			}
			for i, blocks := range partitionsOf(n) {
				if n < 5 || i%11 == 0 {
					checkMemory(t, fmt.Sprint(f.name, " ", blocks), func(p *probe) []any { return f.call(p, blocks) })
				}
			}
		}
		for _, blocks := range wrongBlocks() {
			checkMemory(t, fmt.Sprint(f.name, " ", blocks), func(p *probe) []any { return f.call(p, blocks) })
		}
	}
}

func TestFileTotalMemoryOfResults(t *testing.T) {
	for n := 1; n <= 6; n++ {
		checkMemory(t, fmt.Sprint("ArrowBoard ", n), func(p *probe) []any { return both(impl.ArrowBoard(n)) })
		for k := 1; k <= n; k++ {
			checkMemory(t, fmt.Sprint("AllPartitions ", n, k), func(p *probe) []any { return both(impl.AllPartitions(n, k)) })
		}
		for _, blocks := range partitionsOf(n) {
			text := digits(blocks)
			checkMemory(t, fmt.Sprint("ParsePartition ", text), func(p *probe) []any { return both(impl.ParsePartition(text)) })
		}
	}
}

// The arguments of one call, and the blocks of one argument, may be one memory.
func TestFileTotalOneMemory(t *testing.T) {
	numbers := []int{1, 0}
	b := impl.Board{Rows: 2, Columns: 2, Cells: numbers} // 10/00
	if is, ok := impl.IsFilePlacement(b, numbers); !ok || is || !sameList(numbers, []int{1, 0}) {
		t.Error("IsFilePlacement, Cells as a list:", is, ok, numbers)
	}
	numbers = []int{0, 2}
	b = impl.Board{Rows: 2, Columns: 2, Cells: numbers} // 00/01
	if is, ok := impl.IsFilePlacement(b, numbers); !ok || is || !sameList(numbers, []int{0, 2}) {
		t.Error("IsFilePlacement, Cells as a list:", is, ok, numbers)
	}
	// Three blocks that lie one behind the other in one list, so that the capacity of each is in the next one.
	whole := []int{0, 3, 1, 4, 2, 7}
	blocks := [][]int{whole[:2], whole[2:4], whole[4:5]}
	if list, ok := impl.RooksOfPartition(blocks); !ok || !sameList(list, []int{3, 4, -1, -1, -1}) {
		t.Error("RooksOfPartition, one list:", list, ok)
	}
	if list, ok := impl.FilesOfCycles(blocks); !ok || !sameList(list, []int{-1, -1, -1, 0, 1}) {
		t.Error("FilesOfCycles, one list:", list, ok)
	}
	if text, ok := impl.PartitionText(blocks); !ok || text != "03|14|2" {
		t.Error("PartitionText, one list:", text, ok)
	}
	// One block twice, and one that is the beginning of another.
	for _, f := range blocksCalls() {
		for _, same := range [][][]int{{whole[:1], whole[:1]}, {whole[:1], whole[:2]}, {whole[:2], whole[:1]}} {
			results := f.call(&probe{}, same)
			fails(t, f.name+", one block twice", results...)
		}
	}
	if !sameList(whole, []int{0, 3, 1, 4, 2, 7}) {
		t.Error("the blocks are", whole, "now")
	}
}

func TestFileTotalStrangeNumbers(t *testing.T) {
	for _, n := range append(strangeNumbers(), 2, 3, 4, 8, 9, 10, 11, 12) {
		for _, f := range fileNumberCalls() {
			what := fmt.Sprint(f.name, " ", n)
			calm(t, what, func() { knowsZeros(t, what, n >= f.least && n <= f.most, f.call(n)) })
		}
		for _, k := range append(strangeNumbers(), 2, 3, 4, 9, 10, 11) {
			what := fmt.Sprint(" ", n, " ", k)
			calm(t, what, func() {
				is := n >= 0 && n <= 10 && k >= 0 && k <= n
				knowsZeros(t, "StirlingSecond"+what, is, both(impl.StirlingSecond(n, k)))
				knowsZeros(t, "StirlingFirst"+what, is, both(impl.StirlingFirst(n, k)))
				knowsZeros(t, "LahNumber"+what, is, both(impl.LahNumber(n, k)))
				knowsZeros(t, "AllPartitions"+what, n >= 1 && n <= 5 && k >= 1 && k <= n, both(impl.AllPartitions(n, k)))
				strangeFiles(t, n, k)
			})
		}
	}
}

// strangeFiles makes the calls that take lists and boards, with two numbers.
func strangeFiles(t *testing.T, x, y int) {
	t.Helper()
	for _, b := range append(wrongBoards(), of("11"), of("01/11"), of("111111"), of("0/1/0/0/0/1")) {
		knowsZeros(t, fmt.Sprint("FileValue ", b, x), impl.IsBoard(b) && x >= -100 && x <= 100, both(impl.FileValue(b, x)))
		for _, list := range [][]int{{x}, {x, y}, {x, y, x}, {-1, x, y, -1, 0, x}} {
			if impl.IsBoard(b) {
				expectFiling(t, b, list)
			} else {
				fails(t, fmt.Sprint("IsFilePlacement ", b, list), both(impl.IsFilePlacement(b, list))...)
			}
		}
	}
	for _, list := range [][]int{{x}, {x, y}, {x, y, -1}, {-1, x, y}, {-1, x, -1, -1, y, -1}, {x, y, x, y, x, y, x}} {
		n := len(list)
		knowsZeros(t, fmt.Sprint("PartitionOf ", list), n <= 6 && isPlacing(arrowPicture(n), list), both(impl.PartitionOf(list)))
		knowsZeros(t, fmt.Sprint("CyclesOfFiles ", list), n <= 6 && isFiling(arrowPicture(n), list), both(impl.CyclesOfFiles(list)))
	}
	for _, blocks := range [][][]int{{{x}}, {{x, y}}, {{x}, {y}}, {{0, x}, {1, y}}, {{0}, {x, y}}, {{0, x, y}}, {{x}, nil, {y}}, {{0, 1, 2, 3, x, y}}, {{0, 1, 2, 3, 4, x, y}}} {
		for _, f := range blocksCalls() {
			knowsZeros(t, fmt.Sprint(f.name, " ", blocks), areBlocks(blocks, f.rise), f.call(&probe{bare: true}, blocks))
		}
	}
}

// Lists and texts far over any limit end in a failure.
func TestFileTotalLongLists(t *testing.T) {
	zeros, none, rising := make([]int, 100000), make([]int, 100000), make([]int, 100000)
	empty, single := make([][]int, 100000), make([][]int, 100000)
	for i := range none {
		none[i], rising[i], single[i] = -1, i, []int{i}
	}
	for _, long := range [][]int{zeros, none, rising} {
		fails(t, "IsFilePlacement, a long list", both(impl.IsFilePlacement(must(impl.FullBoard(6, 6)), long))...)
		for _, f := range arrowCalls() {
			fails(t, f.name+", a long list", f.call(&probe{}, long)...)
		}
		for _, f := range blocksCalls() {
			for _, blocks := range [][][]int{{long}, {{0}, long}, {long, {0}}, {{0, 1}, {2}, long, {3}}, slices.Repeat([][]int{long}, 100)} {
				fails(t, f.name+", a long block", f.call(&probe{bare: true}, blocks)...)
			}
		}
	}
	for _, f := range blocksCalls() {
		for _, blocks := range [][][]int{empty, single, append(empty[:5:5], single...), append(single[:6:6], empty...), append(empty[:50000:50000], single[:6]...)} {
			fails(t, f.name+", many blocks", f.call(&probe{bare: true}, blocks)...)
		}
		fails(t, f.name+", seven blocks", f.call(&probe{}, single[:7])...)
		if results := f.call(&probe{}, single[:6]); results[1] != true {
			t.Errorf("%s: fails for six blocks", f.name)
		}
	}
	for _, part := range []string{"0", "|", "0|", "|0", "01", "\x00", "012345|", "a"} {
		text := strings.Repeat(part, 300000)
		fails(t, "ParsePartition, a long text", both(impl.ParsePartition(text))...)
		fails(t, "ParsePartition, a long text behind a right one", both(impl.ParsePartition("0|12"+text))...)
	}
}
