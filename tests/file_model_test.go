package tests

import (
	"fmt"
	"slices"

	"loop.example/g01125/impl"
)

// isFiling says what a file placement on a picture is, word by word.
func isFiling(p picture, list []int) bool {
	if len(list) != len(p[0]) {
		return false
	}
	for c, r := range list {
		if r != -1 && (r < 0 || r >= len(p) || !p[r][c]) {
			return false
		}
	}
	return true
}

// filings counts the file placements on a board by their size, 0..Columns. It tries all lists and keeps what it has found.
func filings(b impl.Board) []int {
	p := pictureOf(b)
	if found, is := filingsFound[p.text()]; is {
		return found
	}
	counts := make([]int, b.Columns+1)
	for _, list := range allLists(b.Columns, -1, b.Rows-1) {
		if isFiling(p, list) {
			counts[rooksIn(list)]++
		}
	}
	filingsFound[p.text()] = counts
	return counts
}

var filingsFound = map[string][]int{}

// fileBoards holds the boards on which file placements are tried.
func fileBoards() []impl.Board {
	list := append(sampleBoards(), mixedBoards()...)
	for n := 1; n <= 6; n++ {
		list = append(list, arrowPicture(n).board())
	}
	return append(list, of("101010/101010/111111"), of("000/111"), of("0/1/0/1/1"), of("011111/001111/000111/000011/000001"))
}

// columnOf counts the cells in a column of a picture.
func columnOf(p picture, c int) int {
	count := 0
	for _, row := range p {
		if row[c] {
			count++
		}
	}
	return count
}

// arrowPicture is the arrow board of n.
func arrowPicture(n int) picture {
	return draw(n, n, func(r, c int) bool { return r < c })
}

// arrowPlacings lists all placements of rooks on the arrow board of n.
func arrowPlacings(n int) [][]int {
	byRooks := placings(arrowPicture(n).board())
	return slices.Concat(byRooks[:]...)
}

// arrowFilings lists all file placements on the arrow board of n, in lexicographic order.
func arrowFilings(n int) [][]int {
	lists := [][]int{{}}
	for j := 0; j < n; j++ {
		var longer [][]int
		for _, list := range lists {
			for r := -1; r < j; r++ {
				longer = append(longer, append(append([]int{}, list...), r))
			}
		}
		lists = longer
	}
	return lists
}

// blocksBy puts each number into the block that its label tells.
func blocksBy(labels []int) [][]int {
	var blocks [][]int
	for number, label := range labels {
		for len(blocks) <= label {
			blocks = append(blocks, nil)
		}
		blocks[label] = append(blocks[label], number)
	}
	return blocks
}

// areLabels reports whether labels are those of a partition: each is one before it, or the next one that is new.
func areLabels(labels []int) bool {
	next := 0
	for _, label := range labels {
		if label > next {
			return false
		}
		next = max(next, label+1)
	}
	return true
}

// partitionsOf lists all partitions of n, in the order of the labels of their numbers. It tries all labels
// and keeps what it has found.
func partitionsOf(n int) [][][]int {
	if found, is := partitionsFound[n]; is {
		return found
	}
	var list [][][]int
	for _, labels := range allLists(n, 0, n-1) {
		if areLabels(labels) {
			list = append(list, blocksBy(labels))
		}
	}
	partitionsFound[n] = list
	return list
}

var partitionsFound = map[int][][][]int{}

// labelsOf tells for each number of a partition, or of cycles, the index of its block.
func labelsOf(blocks [][]int) []int {
	labels := make([]int, numbersIn(blocks))
	for i, block := range blocks {
		for _, number := range block {
			labels[number] = i
		}
	}
	return labels
}

func numbersIn(blocks [][]int) int {
	return len(slices.Concat(blocks...))
}

// chained is the partition of a placement on the arrow board: blocks are followed from number to number.
func chained(list []int) [][]int {
	var blocks [][]int
	for i := range list {
		if slices.Contains(list, i) {
			continue
		}
		block := []int{i}
		for next := list[i]; next != -1; next = list[next] {
			block = append(block, next)
		}
		blocks = append(blocks, block)
	}
	return blocks
}

// nextOf is the placement of a partition: for each number the next one in its block.
func nextOf(blocks [][]int) []int {
	list := make([]int, numbersIn(blocks))
	for _, block := range blocks {
		for i, number := range block {
			list[number] = -1
			if i+1 < len(block) {
				list[number] = block[i+1]
			}
		}
	}
	return list
}

// inserted makes the cycles of a file placement on the arrow board, number by number as the document tells.
func inserted(list []int) [][]int {
	var cycles [][]int
	for j, behind := range list {
		if behind == -1 {
			cycles = append(cycles, []int{j})
			continue
		}
		for i, block := range cycles {
			if at := slices.Index(block, behind); at >= 0 {
				cycles[i] = slices.Insert(slices.Clone(block), at+1, j)
			}
		}
	}
	return cycles
}

// before is the file placement of cycles: for each number the one before it when all greater ones are left out.
func before(cycles [][]int) []int {
	list := make([]int, numbersIn(cycles))
	for j := range list {
		list[j] = -1
		for _, block := range cycles {
			var left []int
			for _, number := range block {
				if number <= j {
					left = append(left, number)
				}
			}
			if at := slices.Index(left, j); at > 0 {
				list[j] = left[at-1]
			}
		}
	}
	return list
}

// cyclesIn lists the cycles of a permutation, each from its least number, which goes to the next one.
func cyclesIn(order []int) [][]int {
	var cycles [][]int
	seen := make([]bool, len(order))
	for i := range order {
		if seen[i] {
			continue
		}
		var block []int
		for j := i; !seen[j]; j = order[j] {
			seen[j] = true
			block = append(block, j)
		}
		cycles = append(cycles, block)
	}
	return cycles
}

// areBlocks says what cycles are, word by word, and what a partition is, if the blocks have to rise.
func areBlocks(blocks [][]int, rise bool) bool {
	n := numbersIn(blocks)
	if n < 1 || n > 6 {
		return false
	}
	for number := 0; number < n; number++ {
		times := 0
		for _, block := range blocks {
			for _, x := range block {
				if x == number {
					times++
				}
			}
		}
		if times != 1 {
			return false
		}
	}
	for i, block := range blocks {
		if len(block) == 0 || i > 0 && blocks[i-1][0] > block[0] {
			return false
		}
		for at := 1; at < len(block); at++ {
			if block[at] < block[0] || rise && block[at] < block[at-1] {
				return false
			}
		}
	}
	return true
}

// digits is the text of blocks of numbers in 0..9.
func digits(blocks [][]int) string {
	s := ""
	for i, block := range blocks {
		if i > 0 {
			s += "|"
		}
		for _, number := range block {
			s += fmt.Sprint(number)
		}
	}
	return s
}

// blocksOf reads blocks of digits that a test writes itself.
func blocksOf(text string) [][]int {
	blocks := [][]int{nil}
	for _, sign := range text {
		if sign == '|' {
			blocks = append(blocks, nil)
			continue
		}
		last := len(blocks) - 1
		blocks[last] = append(blocks[last], int(sign-'0'))
	}
	return blocks
}

// countedBlocks counts by their number of blocks the partitions of n, the cycles of n, and the ways in which n numbers
// can stand in rows, by looking at all labels, at all permutations, and at all cuts of all permutations.
func countedBlocks(n int) (second, first, lah []int) {
	second, first, lah = make([]int, n+1), make([]int, n+1), make([]int, n+1)
	for _, blocks := range partitionsOf(n) {
		second[len(blocks)]++
	}
	seen := map[string]bool{}
	for _, order := range orders(n) {
		first[len(cyclesIn(order))]++
		for cuts := 0; cuts < 1<<n; cuts++ {
			if n > 0 && cuts%2 == 0 {
				continue // a row begins with the first number
			}
			rows := cutRows(order, cuts)
			slices.SortFunc(rows, slices.Compare)
			if key := fmt.Sprint(rows); !seen[key] {
				seen[key] = true
				lah[len(rows)]++
			}
		}
	}
	return second, first, lah
}

// cutRows divides a list into rows, which begin where cuts has a bit.
func cutRows(list []int, cuts int) [][]int {
	var rows [][]int
	for i, x := range list {
		if cuts>>i&1 == 1 {
			rows = append(rows, nil)
		}
		rows[len(rows)-1] = append(rows[len(rows)-1], x)
	}
	return rows
}

// wrongBlocks holds lists that are neither a partition nor cycles, each for one reason.
func wrongBlocks() [][][]int {
	lists := [][][]int{
		nil, {}, {nil}, {{}, {}}, {nil, {0}}, {{0}, nil}, {{0}, {}, {1}}, {{0, 1}, {}}, {{}, {0, 1}},
		{{1}}, {{-1}}, {{6}}, {{1}, {0}}, {{0}, {2}}, {{1}, {2}}, {{0, 2}}, {{1, 2}}, {{0, 0}}, {{0}, {0}}, {{0, 1}, {1}}, {{0, 1, 1}},
		{{0, 1}, {0, 1}}, {{1, 0}}, {{0}, {2, 1}}, {{2, 0, 1}}, {{1, 2}, {0}}, {{0, 3}, {2}, {1}}, {{0}, {3}, {1, 2}},
		{{0, 1, 2, 3, 4, 5, 6}}, {{0}, {1}, {2}, {3}, {4}, {5}, {6}}, {{0, 1, 2}, {3, 4, 5, 6}}, {{0, 1, 2, 3, 4, 6}}, {{0, 1, 2, 3, 4, 4}},
		{{0}, {1}, {2}, {3}, {4}, {6}}, {{0}, {1}, {2}, {3}, {4}, {5}, {}}, {{}, {0}, {1}, {2}, {3}, {4}, {5}},
		{{0, 1, 2, 3, 4, 5}, {0, 1, 2, 3, 4, 5}}, {make([]int, 6)}, {make([]int, 7)}, {make([]int, 64)}, make([][]int, 6), make([][]int, 64),
	}
	for n := 1; n <= 4; n++ {
		for _, right := range partitionsOf(n) {
			for i, block := range right {
				for at := range block {
					for _, x := range []int{-1, -2, n, n + 1, 6, 63, 64, 256, 1 << 32, 1 << 62, -1 << 63, 1<<63 - 1} {
						wrong := copyLists(right)
						wrong[i][at] = x
						lists = append(lists, wrong)
					}
				}
				lists = append(lists, slices.Delete(copyLists(right), i, i+1), slices.Insert(copyLists(right), i, nil),
					slices.Insert(copyLists(right), i, block), slices.Insert(copyLists(right), i, []int{n + 1}))
			}
		}
	}
	// Without one of its blocks, a partition may be one of less numbers.
	return slices.DeleteFunc(lists, func(blocks [][]int) bool { return areBlocks(blocks, false) })
}
