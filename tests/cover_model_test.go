package tests

import (
	"slices"
	"sort"

	"loop.example/g01125/impl"
)

// largestOf lists all largest placements on a board, in the order of chapter 6, in which -1 is behind all columns.
func largestOf(b impl.Board) [][]int {
	var largest [][]int
	for _, lists := range placings(b) {
		if len(lists) > 0 {
			largest = append([][]int{}, lists...)
		}
	}
	sort.Slice(largest, func(i, j int) bool { return comesBefore(behindColumns(largest[i]), behindColumns(largest[j])) })
	return largest
}

// behindColumns is a placement with 99 for -1, so that lexicographic order is that of chapter 6.
func behindColumns(list []int) []int {
	key := append([]int{}, list...)
	for r, c := range key {
		if c == -1 {
			key[r] = 99
		}
	}
	return key
}

// linesAmong lists all lists of numbers in 0..n-1 that rise strictly, shorter ones first, then lexicographically.
func linesAmong(n int) [][]int {
	lists := [][]int{{}}
	for i := 0; i < len(lists); i++ {
		next := 0
		if size := len(lists[i]); size > 0 {
			next = lists[i][size-1] + 1
		}
		for ; next < n; next++ {
			lists = append(lists, append(append([]int{}, lists[i]...), next))
		}
	}
	return lists
}

// covers says what a cover of a picture is, cell by cell.
func covers(p picture, rows, columns []int) bool {
	for _, cell := range p.cells() {
		if !slices.Contains(rows, cell[0]) && !slices.Contains(columns, cell[1]) {
			return false
		}
	}
	return true
}

// leastCoversOf lists all covers of a board with as few lines as can be, in order. It tries all rows with all columns
// and keeps what it has found.
func leastCoversOf(b impl.Board) []impl.Lines {
	p := pictureOf(b)
	if found, is := coversFound[p.text()]; is {
		return found
	}
	var list []impl.Lines
	least := b.Rows + b.Columns
	for _, rows := range linesAmong(b.Rows) {
		for _, columns := range linesAmong(b.Columns) {
			lines := len(rows) + len(columns)
			if lines > least || !covers(p, rows, columns) {
				continue
			}
			if lines < least {
				least, list = lines, nil
			}
			list = append(list, impl.Lines{Rows: rows, Columns: columns})
		}
	}
	coversFound[p.text()] = list
	return list
}

var coversFound = map[string][]impl.Lines{}

func sameLines(a, b impl.Lines) bool {
	return sameList(a.Rows, b.Rows) && sameList(a.Columns, b.Columns)
}

func sameCovers(a, b []impl.Lines) bool {
	return slices.EqualFunc(a, b, sameLines)
}

// columnsTouched lists the columns of a picture in which some of the rows have cells.
func columnsTouched(p picture, rows []int) []int {
	var columns []int
	for c := range p[0] {
		for _, r := range rows {
			if p[r][c] {
				columns = append(columns, c)
				break
			}
		}
	}
	return columns
}

// refusingIn finds the first rows of a picture that are more than their columns, or none, and the greatest number
// by which rows are more.
func refusingIn(p picture) ([]int, int) {
	var first []int
	lack := 0
	for _, rows := range linesAmong(len(p)) {
		more := len(rows) - len(columnsTouched(p, rows))
		if more > 0 && first == nil {
			first = rows
		}
		lack = max(lack, more)
	}
	return first, lack
}

// wayOf finds the way of the document by making ways longer at their ends, that which was begun first always first.
// It is nil if no way ends.
func wayOf(p picture, list []int) []int {
	var ways [][]int
	for r, c := range list {
		if c == -1 {
			ways = append(ways, []int{r})
		}
	}
	seen := map[int]bool{}
	for ; len(ways) > 0; ways = ways[1:] {
		way := ways[0]
		for c, on := range p[way[len(way)-1]] {
			if !on || seen[c] {
				continue
			}
			seen[c] = true
			further := append(append([]int{}, way...), c)
			row := slices.Index(list, c)
			if row == -1 {
				return further
			}
			ways = append(ways, append(further, row))
		}
	}
	return nil
}

// fewestSteps tries all ways that come to no row twice, and finds the fewest numbers of one that ends, or 0 if none does.
func fewestSteps(p picture, list []int) int {
	fewest := 0
	seen := make([]bool, len(p))
	var try func(r, steps int)
	try = func(r, steps int) {
		seen[r] = true
		for c, on := range p[r] {
			if !on {
				continue
			}
			row := slices.Index(list, c)
			if row == -1 && (fewest == 0 || steps+2 < fewest) {
				fewest = steps + 2
			}
			if row != -1 && !seen[row] {
				try(row, steps+2)
			}
		}
		seen[r] = false
	}
	for r, c := range list {
		if c == -1 {
			try(r, 0)
		}
	}
	return fewest
}

// followed is what FollowWay has to return, or nil if it has to fail.
func followed(p picture, list, way []int) []int {
	if !isPlacing(p, list) || len(way) == 0 || len(way) > 12 || len(way)%2 == 1 {
		return nil
	}
	next := append([]int{}, list...)
	for i, number := range way {
		if i%2 == 1 {
			next[way[i-1]] = number
		} else if number < 0 || number >= len(next) {
			return nil
		}
	}
	if !isPlacing(p, next) || rooksIn(next) <= rooksIn(list) {
		return nil
	}
	return next
}

// cellsBy lists the cells of a board by how many of some placements have them: those in each one, and those in none.
func cellsBy(b impl.Board, placements [][]int) (needed, useless [][]int) {
	for _, cell := range pictureOf(b).cells() {
		in := 0
		for _, list := range placements {
			if list[cell[0]] == cell[1] {
				in++
			}
		}
		switch in {
		case len(placements):
			needed = append(needed, cell)
		case 0:
			useless = append(useless, cell)
		}
	}
	return needed, useless
}

// mixedBoards holds boards of each size, from few cells to many, that follow no rule.
func mixedBoards() []impl.Board {
	var list []impl.Board
	state := 12345
	next := func(below int) int {
		state = (state*1103515245 + 12345) % (1 << 31)
		return state >> 16 % below
	}
	for rows := 1; rows <= 6; rows++ {
		for columns := 1; columns <= 6; columns++ {
			for percent := 15; percent <= 85; percent += 14 {
				list = append(list, draw(rows, columns, func(r, c int) bool { return next(100) < percent }).board())
			}
		}
	}
	return list
}

// edgeBoards holds boards that chapter 6 has a word about: rows that refuse, lines of one kind or of both, rows without
// cells, cells that are in each largest placement or in none, and long ways.
func edgeBoards() []impl.Board {
	return []impl.Board{
		of("110/100/100"), of("110/011/101"), of("100/010/001"), of("111/111/111"), of("111/100/100"), of("000/111/000"),
		of("010/010/010"), of("111/010/010"), of("1100/1100/1100/0011"), of("1100/1100/0011/0011"), of("100/110/111"),
		of("111111/100000/100000/100000/100000/100000"), of("111111/111111/100000/100000/100000/100000"),
		of("110000/011000/001100/000110/000011/000001"), of("100000/110000/011000/001100/000110/000011"),
		of("000000/111111/000000/111111/000000/111111"), of("101010/101010/101010/101010/101010/101010"),
		of("000000/010000/000000/000000/000010/000000"), of("111/111/111/111/111/111"), of("111111/111111/111111"),
		of("000000/000000/000000"), of("00/00/00/00/00/00"), of("111110/100000/000001/000001/000001"),
	}
}

// coverBoards holds the boards on which the functions of chapter 6 are tried.
func coverBoards() []impl.Board {
	return append(append(sampleBoards(), edgeBoards()...), mixedBoards()...)
}

// limitBoard is a board, told by its text, with as many largest placements as count tells.
type limitBoard struct {
	text  string
	count int
}

// limitBoards holds boards with about MaxPlacings largest placements, which are full or not. The numbers next to 300
// that boards were found to have are 298 and 309.
func limitBoards() []limitBoard {
	return []limitBoard{
		{"111110/101111/101111/110111/011111", 298},
		{"11101/11111/11110/11101/01111/11011", 298},
		{"111101/001111/111011/110111/111111/000000", 298},
		{"111011/111111/111111/011111/111101/101110", 298},
		{"111111/111110/111111/111111", 300},
		{"000000/111111/111011/111111/111111", 300},
		{"1011/1111/1111/1111/1111/1111", 300},
		{"01111/01111/01111/01101/01111/01111", 300},
		{"110111/011111/111110/111011/111101", 309},
		{"10111/01111/11111/11110/11101/11011", 309},
		{"111111/111101/011111/101111/111011/111110", 309},
		{"111111/111111/111111/111111", 360},
		{"111111/111111/111111/111111/111111/111111", 720},
		{"11111/11111/11111/11111/11111/11111", 720},
	}
}

// wrongLines holds lists that are no rows, or no columns, of a board that has as many of them as count tells.
func wrongLines(count int) [][]int {
	lists := [][]int{
		{-1}, {count}, {0, 0}, {0, count}, {-1, 0}, {1, 0}, {6}, {7}, {63}, {64}, {-64}, {1 << 62}, {-1 << 63}, {1<<63 - 1},
		{0, 1 << 32}, {0, -1 << 63}, {0, 1, 2, 3, 4, 5, 6}, {0, 0, 0, 0, 0, 0, 0}, {0, 1, 1}, {0, 2, 1}, make([]int, 100000),
	}
	all := make([]int, count)
	for i := range all {
		all[i] = i
	}
	lists = append(lists, append(append([]int{}, all...), count), append(append([]int{}, all...), count-1))
	if count > 1 {
		backwards := append([]int{}, all...)
		slices.Reverse(backwards)
		lists = append(lists, backwards, []int{count - 1, count - 2}, []int{count - 1, count - 1})
	}
	return lists
}
