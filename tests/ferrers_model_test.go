package tests

import (
	"fmt"
	"sort"

	"loop.example/g01125/impl"
)

// doesNotFall reports whether no number of a list is less than the one before.
func doesNotFall(list []int) bool {
	for i := 1; i < len(list); i++ {
		if list[i] < list[i-1] {
			return false
		}
	}
	return true
}

// comesBefore tells the lexicographic order of lists.
func comesBefore(a, b []int) bool {
	for i := range a {
		if i == len(b) || a[i] > b[i] {
			return false
		}
		if a[i] < b[i] {
			return true
		}
	}
	return len(a) < len(b)
}

// lengthLists lists all lengths of n numbers, in lexicographic order. It tries all lists and keeps what it has found.
func lengthLists(n int) [][]int {
	if found, is := lengthListsFound[n]; is {
		return found
	}
	var lists [][]int
	for _, list := range allLists(n, 0, n) {
		if doesNotFall(list) {
			lists = append(lists, list)
		}
	}
	lengthListsFound[n] = lists
	return lists
}

var lengthListsFound = map[int][][]int{}

// allLengthLists lists all lengths there are.
func allLengthLists() [][]int {
	var lists [][]int
	for n := 1; n <= 6; n++ {
		lists = append(lists, lengthLists(n)...)
	}
	return lists
}

// pictureOfLengths draws the board of lengths.
func pictureOfLengths(lengths []int) picture {
	return draw(len(lengths), len(lengths), func(r, c int) bool { return c < lengths[r] })
}

// lengthsShown reads lengths off a picture, and tells whether it is that of an ordered board, word by word.
func lengthsShown(p picture) ([]int, bool) {
	if len(p) != len(p[0]) {
		return nil, false
	}
	var lengths []int
	for _, row := range p {
		length := 0
		for c, on := range row {
			if on && c != length {
				return nil, false
			}
			if on {
				length++
			}
		}
		lengths = append(lengths, length)
	}
	return lengths, doesNotFall(lengths)
}

// countPlacings counts the placements on a picture by their rooks, walking over all of them.
func countPlacings(p picture) []int {
	counts := make([]int, min(len(p), len(p[0]))+1)
	taken := make([]bool, len(p[0]))
	var walk func(r, rooks int)
	walk = func(r, rooks int) {
		if r == len(p) {
			counts[rooks]++
			return
		}
		walk(r+1, rooks)
		for c := range taken {
			if p[r][c] && !taken[c] {
				taken[c] = true
				walk(r+1, rooks+1)
				taken[c] = false
			}
		}
	}
	walk(0, 0)
	return counts
}

// lengthNumbers holds the rook numbers of the board of lengths, and keeps what it has counted.
func lengthNumbers(lengths []int) []int {
	name := fmt.Sprint(lengths)
	if _, is := lengthNumbersFound[name]; !is {
		lengthNumbersFound[name] = countPlacings(pictureOfLengths(lengths))
	}
	return lengthNumbersFound[name]
}

var lengthNumbersFound = map[string][]int{}

// classLists lists the lengths whose boards have the same rook numbers, each class in lexicographic order,
// under the rook numbers. It asks for no factors.
func classLists(n int) map[string][][]int {
	if _, is := classListsFound[n]; !is {
		classes := map[string][][]int{}
		for _, lengths := range lengthLists(n) {
			name := fmt.Sprint(lengthNumbers(lengths))
			classes[name] = append(classes[name], lengths)
		}
		classListsFound[n] = classes
	}
	return classListsFound[n]
}

var classListsFound = map[int]map[string][][]int{}

// lessIndices takes its index away from each number of a list and puts the differences in order.
func lessIndices(list []int) []int {
	var factors []int
	for i, x := range list {
		factors = append(factors, x-i)
	}
	sort.Ints(factors)
	return factors
}

// strictLists lists all lists of n numbers in 0..most that do not fall and of which all other than 0 are different.
func strictLists(n, most int) [][]int {
	var lists [][]int
	var grow func(list []int)
	grow = func(list []int) {
		if len(list) == n {
			lists = append(lists, append([]int{}, list...))
			return
		}
		for x := 0; x <= most; x++ {
			if len(list) == 0 || x > list[len(list)-1] || x == 0 && list[len(list)-1] == 0 {
				grow(append(list, x))
			}
		}
	}
	grow(nil)
	return lists
}

// risingLists lists all lists of n numbers in least..most that do not fall.
func risingLists(n, least, most int) [][]int {
	if n == 0 {
		return [][]int{{}}
	}
	var lists [][]int
	for _, list := range risingLists(n-1, least, most) {
		from := least
		if n > 1 {
			from = list[n-2]
		}
		for x := from; x <= most; x++ {
			lists = append(lists, append(append([]int{}, list...), x))
		}
	}
	return lists
}

// sortedOrders lists all orders of n things in lexicographic order.
func sortedOrders(n int) [][]int {
	list := orders(n)
	sort.Slice(list, func(i, j int) bool { return comesBefore(list[i], list[j]) })
	return list
}

// orderedBy finds the first order of rows that makes a picture that of an ordered board.
func orderedBy(p picture) ([]int, bool) {
	for _, order := range sortedOrders(len(p)) {
		var q picture
		for _, r := range order {
			q = append(q, p[r])
		}
		if _, is := lengthsShown(q); is {
			return order, true
		}
	}
	return nil, false
}

// wrongLengths holds lists that are no lengths, each for one reason.
func wrongLengths() [][]int {
	return [][]int{
		nil, {}, []int{1, 2}[:0],
		{0, 0, 0, 0, 0, 0, 0}, {0, 1, 2, 3, 4, 5, 6}, {6, 6, 6, 6, 6, 6, 6}, {7, 7, 7, 7, 7, 7, 7}, make([]int, 64),
		{1, 0}, {2, 1}, {0, 2, 1}, {1, 0, 3}, {3, 2, 3}, {0, 1, 2, 3, 5, 4}, {1, 0, 1, 2, 3, 4}, {6, 5, 4, 3, 2, 1}, {0, 3, 2, 3},
		{-1}, {-1, 0}, {-1, 1, 2}, {-2, -1}, {-6, 0, 0, 0, 0, 6}, {-1, -1, -1, -1, -1, -1},
		{2}, {0, 3}, {3, 3}, {1, 2, 4}, {4, 4, 4}, {0, 0, 0, 0, 6}, {0, 1, 2, 3, 4, 7}, {7, 7, 7, 7, 7, 7},
		{64}, {-64}, {1 << 32}, {1 << 62}, {-1 << 63}, {1<<63 - 1}, {0, 1<<63 - 1}, {-1 << 63, 0}, {-1 << 63, 1<<63 - 1},
		{0, 1, 2, 3, 4, 1 << 32}, {-1 << 63, 1, 2, 3, 4, 5},
	}
}

// unorderedBoards holds boards that are not ordered, each for one reason: its size, a row that does not begin
// at the left, or rows that fall.
func unorderedBoards() []impl.Board {
	var list []impl.Board
	for _, text := range []string{
		"1/1", "11", "10/11/11", "100/110", "111111", "1/1/1/1/1/1", "10000/11000/11100/11110/11111/11111", "0/0", "00",
		"01/11", "00/01", "010/110/111", "101/111/111", "100/101/111", "000000/000000/000000/000000/000000/000001",
		"100000/110000/111000/111100/111110/111101", "010000/110000/111000/111100/111110/111111",
		"11/10", "10/00", "100/110/100", "110/100/111", "111/000/000", "100000/110000/111000/111100/111111/111110",
		"100000/000000/000000/000000/000000/000000",
	} {
		list = append(list, of(text))
	}
	return list
}
