package tests

import "loop.example/g01125/impl"

// allLists lists all lists of as many numbers as length tells, each in least..most, in lexicographic order.
func allLists(length, least, most int) [][]int {
	if length == 0 {
		return [][]int{{}}
	}
	shorter := allLists(length-1, least, most)
	var list [][]int
	for x := least; x <= most; x++ {
		for _, behind := range shorter {
			list = append(list, append([]int{x}, behind...))
		}
	}
	return list
}

// isPlacing says what a placement on a picture is, word by word.
func isPlacing(p picture, list []int) bool {
	if len(list) != len(p) {
		return false
	}
	for r, c := range list {
		if c == -1 {
			continue
		}
		if c < 0 || c >= len(p[r]) || !p[r][c] {
			return false
		}
		for _, other := range list[:r] {
			if other == c {
				return false
			}
		}
	}
	return true
}

// rooksIn counts the rooks of a placement.
func rooksIn(list []int) int {
	n := 0
	for _, c := range list {
		if c >= 0 {
			n++
		}
	}
	return n
}

// placings lists all placements on a board by their number of rooks, 0..6, each time in lexicographic order.
// It tries all lists, so that it shares no way of counting with the program, and keeps what it has found.
func placings(b impl.Board) [7][][]int {
	p := pictureOf(b)
	if found, is := placingsFound[p.text()]; is {
		return found
	}
	var byRooks [7][][]int
	for _, list := range allLists(b.Rows, -1, b.Columns-1) {
		if isPlacing(p, list) {
			k := rooksIn(list)
			byRooks[k] = append(byRooks[k], list)
		}
	}
	placingsFound[p.text()] = byRooks
	return byRooks
}

var placingsFound = map[string][7][][]int{}

// numbersOf counts placings up to the lesser one of rows and columns.
func numbersOf(b impl.Board) []int {
	var numbers []int
	for k, lists := range placings(b) {
		if k <= b.Rows && k <= b.Columns {
			numbers = append(numbers, len(lists))
		}
	}
	return numbers
}

// cut leaves out the zeros at the end of a list.
func cut(list []int) []int {
	end := 0
	for i, x := range list {
		if x != 0 {
			end = i + 1
		}
	}
	return list[:end]
}

// squareBoards holds the sample boards with as many rows as columns.
func squareBoards() []impl.Board {
	var list []impl.Board
	for _, b := range sampleBoards() {
		if b.Rows == b.Columns {
			list = append(list, b)
		}
	}
	return list
}

// otherBoards holds sample boards with other numbers of rows than of columns.
func otherBoards() []impl.Board {
	var list []impl.Board
	for _, b := range sampleBoards() {
		if b.Rows != b.Columns {
			list = append(list, b)
		}
	}
	return list
}

// columnFillings counts in how many ways each column of a picture of any size can have a rook,
// no two rooks being in one row. Rows below the picture, as many as more tells, have all cells.
func columnFillings(p picture, more int) int {
	taken := make([]bool, len(p))
	var fill func(c, rest int) int
	fill = func(c, rest int) int {
		if c == len(p[0]) {
			return 1
		}
		n := 0
		if rest > 0 {
			n = rest * fill(c+1, rest-1)
		}
		for r := range p {
			if p[r][c] && !taken[r] {
				taken[r] = true
				n += fill(c+1, rest)
				taken[r] = false
			}
		}
		return n
	}
	return fill(0, more)
}

// wrongRookCounts holds numbers out of 0..MaxSide.
func wrongRookCounts() []int {
	return []int{-1, -2, impl.MaxSide + 1, 63, 64, 1 << 62, -1 << 63, 1<<63 - 1}
}

// wrongPoints holds numbers out of -20..20.
func wrongPoints() []int {
	return []int{-21, 21, -22, 22, 64, 1 << 32, -1 << 63, 1<<63 - 1}
}

// wrongPlacings holds lists that are no placement on a board.
func wrongPlacings(b impl.Board) [][]int {
	p := pictureOf(b)
	right := make([]int, b.Rows)
	for r := range right {
		right[r] = -1
	}
	lists := [][]int{nil, {}, right[:b.Rows-1], append(append([]int{}, right...), -1), append(append([]int{}, right...), 0)}
	for r := range right {
		for _, c := range []int{-2, -64, b.Columns, 6, 63, 64, 65, 1 << 62, -1 << 63, 1<<63 - 1} {
			list := append([]int{}, right...)
			list[r] = c
			lists = append(lists, list)
		}
		for c := range p[r] {
			list := append([]int{}, right...)
			list[r] = c
			if !p[r][c] {
				lists = append(lists, list)
				continue
			}
			for s := r + 1; s < b.Rows; s++ {
				twice := append([]int{}, list...)
				twice[s] = c
				lists = append(lists, twice)
			}
		}
	}
	return lists
}
