package tests

import "loop.example/g01125/impl"

// hitsIn counts the rows of a picture in which a permutation stands on a cell.
func hitsIn(p picture, order []int) int {
	n := 0
	for r, c := range order {
		if p[r][c] {
			n++
		}
	}
	return n
}

// hitLists lists all permutations by the number of rows that they hit, 0..6, each time in lexicographic order.
// It looks at all permutations and keeps what it has found.
func hitLists(b impl.Board) [7][][]int {
	p := pictureOf(b)
	if found, is := hitListsFound[p.text()]; is {
		return found
	}
	var byHits [7][][]int
	for _, order := range sortedOrders(b.Rows) {
		k := hitsIn(p, order)
		byHits[k] = append(byHits[k], order)
	}
	hitListsFound[p.text()] = byHits
	return byHits
}

var hitListsFound = map[string][7][][]int{}

// hitCounts counts hitLists up to the number of rows.
func hitCounts(b impl.Board) []int {
	var counts []int
	for k, lists := range hitLists(b) {
		if k <= b.Rows {
			counts = append(counts, len(lists))
		}
	}
	return counts
}

// hitBoards holds the square sample boards, and some of four and of five rows.
func hitBoards() []impl.Board {
	list := squareBoards()
	for i, b := range boardsOfSize(4, 4) {
		if i%613 == 0 || i == 1<<16-1 {
			list = append(list, b)
		}
	}
	for _, text := range []string{
		"00000/00000/00000/00000/00000", "11111/11111/11111/11111/11111", "10000/01000/00100/00010/00001",
		"11000/01100/00110/00011/10001", "01111/00111/00011/00001/00000", "10110/01101/11100/00011/10001", "00100/00000/11111/00100/00101",
	} {
		list = append(list, of(text))
	}
	return list
}

// times is the product of 1, 2, .., n.
func times(n int) int {
	if n < 2 {
		return 1
	}
	return n * times(n-1)
}

// together adds the numbers of a list.
func together(list []int) int {
	sum := 0
	for _, x := range list {
		sum += x
	}
	return sum
}

// backwards is a list in the opposite order.
func backwards(list []int) []int {
	var other []int
	for i := len(list) - 1; i >= 0; i-- {
		other = append(other, list[i])
	}
	return other
}

// hitsTold finds hit numbers from rook numbers by Horner's rule with polynomials: times x - 1, and the next number added.
func hitsTold(rooks []int) []int {
	n := len(rooks) - 1
	hits := make([]int, n+1)
	for k := n; k >= 0; k-- {
		for i := n; i > 0; i-- {
			hits[i] = hits[i-1] - hits[i]
		}
		hits[0] = rooks[k]*times(n-k) - hits[0]
	}
	return hits
}

// rooksTold finds rook numbers from hit numbers by dividing by x - 1 again and again: the remainders are the rook
// numbers times factorials. It tells at which indices one is no whole number.
func rooksTold(hits []int) (rooks []int, broken []int) {
	n := len(hits) - 1
	left := append([]int{}, hits...)
	for k := 0; k <= n; k++ {
		for i := len(left) - 2; i >= 0; i-- {
			left[i] += left[i+1]
		}
		if left[0]%times(n-k) != 0 {
			broken = append(broken, k)
		}
		rooks = append(rooks, left[0]/times(n-k))
		left = left[1:]
	}
	return rooks, broken
}

// valueAt is the sum of all numbers of a list, each times the power of x that its index tells.
func valueAt(list []int, x int) int {
	value := 0
	for i := len(list) - 1; i >= 0; i-- {
		value = value*x + list[i]
	}
	return value
}

// belong reports whether rook numbers and hit numbers belong to each other, by the values of both sums at more places
// than the degree is.
func belong(rooks, hits []int) bool {
	if len(rooks) != len(hits) {
		return false
	}
	var extended []int
	for k, x := range rooks {
		extended = append(extended, x*times(len(rooks)-1-k))
	}
	for x := -5; x <= 5; x++ {
		if valueAt(extended, x-1) != valueAt(hits, x) {
			return false
		}
	}
	return true
}

// sumLists holds lists of 2..7 numbers in 0..MaxHitSum: all lists of small numbers, mixed ones, and the greatest ones.
func sumLists() [][]int {
	lists := append(allLists(2, 0, 8), allLists(3, 0, 6)...)
	lists = append(lists, allLists(4, 0, 4)...)
	for length := 2; length <= 7; length++ {
		zeros, top := make([]int, length), make([]int, length)
		for i := range top {
			top[i] = 1000000
			one := make([]int, length)
			one[i] = 1000000
			less := append([]int{}, one...)
			less[i] = 1
			lists = append(lists, one, less)
		}
		lists = append(lists, zeros, top)
		for seed := 1; seed <= 60; seed++ {
			mixed, small := make([]int, length), make([]int, length)
			for i := range mixed {
				mixed[i] = (seed*104729 + i*i*7919*seed + length*31) % 1000001
				small[i] = mixed[i] % 25
			}
			lists = append(lists, mixed, small)
		}
	}
	for _, b := range hitBoards() {
		if b.Rows > 2 {
			lists = append(lists, numbersOf(b), hitCounts(b))
		}
	}
	return lists
}

// wrongSumLists holds lists that are too short or too long, or have a number out of 0..MaxHitSum.
func wrongSumLists() [][]int {
	lists := [][]int{nil, {}, {0}, {1}, {1000000}, {-1}, []int{1, 2, 1}[:0], []int{1, 2, 1}[:1], make([]int, 8), {1, 0, 0, 0, 0, 0, 0, 0},
		{1, 1, 1, 1, 1, 1, 1, 1}, {1000000, 1000000, 1000000, 1000000, 1000000, 1000000, 1000000, 1000000}, make([]int, 64), make([]int, 100000)}
	for length := 2; length <= 7; length++ {
		for i := 0; i < length; i++ {
			for _, x := range []int{-1, -2, 1000001, 1 << 32, 1 << 62, -1 << 63, 1<<63 - 1} {
				list := make([]int, length)
				list[i] = x
				other := append([]int{}, list...)
				other[(i+1)%length] = 720
				lists = append(lists, list, other)
			}
		}
	}
	return lists
}

// wrongOrders holds lists that are no permutation of n, each for one reason.
func wrongOrders(n int) [][]int {
	right := orders(n)[0]
	lists := [][]int{nil, {}, right[:n-1], append(append([]int{}, right...), n), append(append([]int{}, right...), 0), make([]int, n+1), make([]int, 100000)}
	for i := range right {
		for _, x := range []int{-1, -2, -64, n, n + 1, 63, 64, 1 << 62, -1 << 63, 1<<63 - 1} {
			list := append([]int{}, right...)
			list[i] = x
			lists = append(lists, list)
		}
		for j := range right {
			if i != j {
				list := append([]int{}, right...)
				list[i] = list[j]
				lists = append(lists, list)
			}
		}
	}
	return lists
}

// orderCounts tells, by the number of rows that they hit, how many permutations hit the cells r, r, the cells
// r, c with c greater than r, and the cells of the round table.
type orderCounts struct {
	fixed, above, table []int
}

// countOrders walks over all permutations of n, at most 10, and keeps what it has counted.
func countOrders(n int) orderCounts {
	if found, is := countOrdersFound[n]; is {
		return found
	}
	counts := orderCounts{make([]int, n+1), make([]int, n+1), make([]int, n+1)}
	taken := make([]bool, n)
	var walk func(r, fixed, above, table int)
	walk = func(r, fixed, above, table int) {
		if r == n {
			counts.fixed[fixed]++
			counts.above[above]++
			counts.table[table]++
			return
		}
		for c := range taken {
			if taken[c] {
				continue
			}
			taken[c] = true
			switch {
			case c == r:
				walk(r+1, fixed+1, above, table+1)
			case c == r+1:
				walk(r+1, fixed, above+1, table+1)
			case c > r:
				walk(r+1, fixed, above+1, table)
			case c == 0 && r == n-1:
				walk(r+1, fixed, above, table+1)
			default:
				walk(r+1, fixed, above, table)
			}
			taken[c] = false
		}
	}
	walk(0, 0, 0, 0)
	countOrdersFound[n] = counts
	return counts
}

var countOrdersFound = map[int]orderCounts{}

// deranged counts permutations of n without fixed numbers: the first number goes to one of the others,
// and this one goes back to it or does not.
func deranged(n int) int {
	switch n {
	case 0:
		return 1
	case 1:
		return 0
	}
	return (n - 1) * (deranged(n-1) + deranged(n-2))
}

// chosen is how many choices of k of n things there are, by Pascal's triangle.
func chosen(n, k int) int {
	if k == 0 || k == n {
		return 1
	}
	return chosen(n-1, k-1) + chosen(n-1, k)
}
