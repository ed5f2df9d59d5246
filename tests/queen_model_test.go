package tests

import "slices"

// isLineup says word by word whether a list has each of 0..n - 1 once, n in 1..8.
func isLineup(list []int) bool {
	if len(list) < 1 || len(list) > 8 {
		return false
	}
	for x := range list {
		times := 0
		for _, y := range list {
			if x == y {
				times++
			}
		}
		if times != 1 {
			return false
		}
	}
	return true
}

// isBeginning says word by word whether a list has at most n different numbers in 0..n - 1, n in 1..8.
func isBeginning(n int, list []int) bool {
	if n < 1 || n > 8 || len(list) > n {
		return false
	}
	for r, x := range list {
		for _, y := range list[:r] {
			if x == y {
				return false
			}
		}
		if x < 0 || x >= n {
			return false
		}
	}
	return true
}

// lineups lists all lists that have each of 0..n - 1 once, in lexicographic order. It keeps what it has found.
func lineups(n int) [][]int {
	if found, is := lineupsFound[n]; is {
		return found
	}
	lists := sortedOrders(n)
	lineupsFound[n] = lists
	return lists
}

var lineupsFound = map[int][][]int{}

// someLineups lists all lists for n up to 6, and for 7 and 8 some of all and all that are queens.
func someLineups() [][]int {
	var lists [][]int
	for n := 1; n <= 8; n++ {
		for i, list := range lineups(n) {
			if n < 7 || i%(n*n-30) == 0 || len(attackingRows(list)) == 0 {
				lists = append(lists, list)
			}
		}
	}
	return lists
}

// attackingRows lists the pairs of rows that are as far from each other as their columns.
func attackingRows(list []int) [][]int {
	var pairs [][]int
	for r := range list {
		for s := range list {
			if r < s && far(r, s) == far(list[r], list[s]) {
				pairs = append(pairs, []int{r, s})
			}
		}
	}
	return pairs
}

// queensOn lists all queens on n rows, in lexicographic order, by trying all lists. It keeps what it has found.
func queensOn(n int) [][]int {
	if found, is := queensFound[n]; is {
		return found
	}
	var lists [][]int
	for _, list := range lineups(n) {
		if len(attackingRows(list)) == 0 {
			lists = append(lists, list)
		}
	}
	queensFound[n] = lists
	return lists
}

var queensFound = map[int][][]int{}

// standsOnTorus says word by word whether no two rows attack each other on a torus.
func standsOnTorus(list []int) bool {
	n := len(list)
	for r := range list {
		for s := range r {
			if far(r+list[r], s+list[s])%n == 0 || far(r-list[r], s-list[s])%n == 0 {
				return false
			}
		}
	}
	return true
}

// pictureOfLineup draws the queens of a list, and lineupShown reads the columns of a picture with one queen in each row.
func pictureOfLineup(list []int) picture {
	return draw(len(list), len(list), func(r, c int) bool { return list[r] == c })
}

func lineupShown(p picture) []int {
	var list []int
	for _, row := range p {
		list = append(list, slices.Index(row, true))
	}
	return list
}

// clockwise turns a picture with as many rows as columns: its left column, read from below, becomes the first row.
func clockwise(p picture) picture {
	n := len(p)
	return draw(n, n, func(r, c int) bool { return p[n-1-c][r] })
}

// reflected exchanges left and right.
func reflected(p picture) picture {
	n := len(p)
	return draw(n, n, func(r, c int) bool { return p[r][n-1-c] })
}

// eightOf lists what turns and mirrors make of a list: rows in one order or the other, columns in one order or the other,
// and both exchanged or not.
func eightOf(list []int) [][]int {
	p := pictureOfLineup(list)
	n := len(p)
	var lists [][]int
	for choice := range 8 {
		lists = append(lists, lineupShown(draw(n, n, func(r, c int) bool {
			if choice&1 != 0 {
				r = n - 1 - r
			}
			if choice&2 != 0 {
				c = n - 1 - c
			}
			if choice&4 != 0 {
				r, c = c, r
			}
			return p[r][c]
		})))
	}
	return lists
}

// firstOf is the lexicographically first one of some lists.
func firstOf(lists [][]int) []int {
	first := lists[0]
	for _, list := range lists {
		if comesBefore(list, first) {
			first = list
		}
	}
	return first
}

// moved carries each queen of a list step by step: a row or a column that is left comes in again on the other side.
func moved(list []int, rows, columns int) []int {
	n := len(list)
	other := slices.Clone(list)
	for r, c := range list {
		for range far(rows, 0) {
			if rows > 0 {
				r++
			} else {
				r--
			}
			if r == n {
				r = 0
			}
			if r < 0 {
				r = n - 1
			}
		}
		for range far(columns, 0) {
			if columns > 0 {
				c++
			} else {
				c--
			}
			if c == n {
				c = 0
			}
			if c < 0 {
				c = n - 1
			}
		}
		other[r] = c
	}
	return other
}

// straight is the list of step times r modulo n, found by going on from row to row.
func straight(n, step int) []int {
	list := make([]int, n)
	for r := 1; r < n; r++ {
		list[r] = list[r-1] + step
		if list[r] >= n {
			list[r] -= n
		}
	}
	return list
}

// seenFrom draws the places that queens reach, by walking from each of them in eight directions to the edge.
func seenFrom(n int, places [][]int) picture {
	seen := draw(n, n, func(r, c int) bool { return false })
	for _, place := range places {
		for _, down := range []int{-1, 0, 1} {
			for _, right := range []int{-1, 0, 1} {
				r, c := place[0], place[1]
				for range n {
					if r >= 0 && r < n && c >= 0 && c < n {
						seen[r][c] = true
					}
					r, c = r+down, c+right
				}
			}
		}
	}
	return seen
}

// seesAll reports whether queens at these places, right ones, reach each place.
func seesAll(n int, places [][]int) bool {
	return len(seenFrom(n, places).cells()) == n*n
}

// arePlaces says word by word whether n is a number of rows and places are at most n rows and columns of a board.
func arePlaces(n int, places [][]int) bool {
	if n < 1 || n > 8 || len(places) > n {
		return false
	}
	for _, place := range places {
		if len(place) != 2 || min(place[0], place[1]) < 0 || max(place[0], place[1]) >= n {
			return false
		}
	}
	return true
}

// placeLists hands all lists of count different places, each list in order, in lexicographic order, to visit.
func placeLists(n, count int, visit func(places [][]int)) {
	all := draw(n, n, func(r, c int) bool { return true }).cells()
	var list [][]int
	var try func(from int)
	try = func(from int) {
		if len(list) == count {
			visit(list)
			return
		}
		for i := from; i < len(all); i++ {
			list = append(list, all[i])
			try(i + 1)
			list = list[:len(list)-1]
		}
	}
	try(0)
}

// watchFound looks for the first places that are watching n rows, with as few queens as can be, by trying all lists.
// It keeps what it has found.
func watchFound(n int) [][]int {
	if found, is := watchesFound[n]; is {
		return found
	}
	var watch [][]int
	for count := 0; watch == nil; count++ {
		placeLists(n, count, func(places [][]int) {
			if watch == nil && seesAll(n, places) {
				watch = slices.Clone(places)
			}
		})
	}
	watchesFound[n] = watch
	return watch
}

var watchesFound = map[int][][]int{}

// watchesOf holds lists of places that are watching n rows: the least ones that are known, and one queen in each row.
func watchesOf(n int) [][][]int {
	known := [][][]int{
		{{0, 0}}, {{0, 0}}, {{1, 1}}, {{0, 0}, {2, 2}}, {{0, 0}, {0, 2}, {3, 2}}, {{0, 0}, {2, 4}, {4, 2}},
		{{0, 0}, {1, 1}, {3, 5}, {5, 3}}, {{0, 0}, {0, 1}, {1, 5}, {4, 0}, {5, 4}},
	}
	lists := [][][]int{known[n-1]}
	for _, column := range []int{0, n / 2, n - 1} {
		var rows, columns [][]int
		for i := range n {
			rows, columns = append(rows, []int{i, column}), append(columns, []int{column, i})
		}
		lists = append(lists, rows, columns)
	}
	return lists
}

// wrongLineups holds lists that do not have each of 0..n - 1 once, n in 1..8, each for one reason.
func wrongLineups() [][]int {
	lists := [][]int{nil, {}, {1}, {-1}, []int{0, 1, 2}[:0], []int{1, 0, 2}[:1], {0, 1, 2, 3, 4, 5, 6, 7, 8}, {1, 3, 5, 7, 2, 0, 6, 4, 8}, {8, 0, 2, 4, 1, 7, 5, 3, 6}}
	for n := 1; n <= 8; n++ {
		for _, list := range wrongOrders(n) {
			// A list that is too long or too short for n may be a right one of its own.
			if !isLineup(list) {
				lists = append(lists, list)
			}
		}
		longer := append(slices.Clone(straight(n, 1)), n-1)
		lists = append(lists, longer, append([]int{0}, straight(n, 1)...))
	}
	for length := 9; length <= 65; length += 7 {
		lists = append(lists, straight(length, 1), backwards(straight(length, 1)))
	}
	return lists
}

// wrongQueenSides holds numbers of rows for which no function of chapter 9 has a result.
func wrongQueenSides() []int {
	return wrongCounts(1, 8)
}

// wrongPlaces holds lists of numbers that are no place of n rows.
func wrongPlaces(n int) [][]int {
	list := [][]int{nil, {}, {0}, {n - 1}, {0, 0, 0}, {0, 0, 0, 0}, make([]int, 64)}
	for _, x := range wrongIndices(n) {
		list = append(list, []int{x, 0}, []int{0, x}, []int{x, x}, []int{n - 1, x}, []int{x, n - 1})
	}
	return append(list, []int{-n, 0}, []int{0, -n}, []int{1, n * 2}, []int{1 << 32, 0}, []int{0, 1 << 32})
}
