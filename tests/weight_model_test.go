package tests

import "fmt"

// freeIn counts the cells of the board of lengths that a placement leaves free, word by word.
func freeIn(lengths, list []int) int {
	n := 0
	for r := range lengths {
		for c := 0; c < lengths[r]; c++ {
			free := list[r] != c
			for before := 0; before < r; before++ {
				free = free && list[before] != c
			}
			for left := 0; left < c; left++ {
				free = free && list[r] != left
			}
			if free {
				n++
			}
		}
	}
	return n
}

// walkPlacings hands all placements on the board of lengths to visit, in any order.
func walkPlacings(lengths []int, visit func(list []int)) {
	list := make([]int, len(lengths))
	taken := make([]bool, len(lengths))
	var walk func(r int)
	walk = func(r int) {
		if r == len(lengths) {
			visit(list)
			return
		}
		list[r] = -1
		walk(r + 1)
		for c := 0; c < lengths[r]; c++ {
			if !taken[c] {
				taken[c], list[r] = true, c
				walk(r + 1)
				taken[c] = false
			}
		}
	}
	walk(0)
}

// weightLists counts, for each number of rooks, all placements by their free cells, and keeps what it has counted.
func weightLists(lengths []int) [][]int {
	name := fmt.Sprint(lengths)
	if found, is := weightListsFound[name]; is {
		return found
	}
	counts := make([][]int, len(lengths)+1)
	for k := range counts {
		counts[k] = make([]int, together(lengths)+1)
	}
	walkPlacings(lengths, func(list []int) { counts[rooksIn(list)][freeIn(lengths, list)]++ })
	for k := range counts {
		counts[k] = cut(counts[k])
	}
	weightListsFound[name] = counts
	return counts
}

var weightListsFound = map[string][][]int{}

// bracketTold finds a bracket by Horner's rule.
func bracketTold(m, q int) int {
	b := 0
	for ; m > 0; m-- {
		b = b*q + 1
	}
	return b
}

// raised is q to the power k.
func raised(q, k int) int {
	if k == 0 {
		return 1
	}
	return q * raised(q, k-1)
}

// rankCountsTold counts the matrices for lengths of each rank row by row: a row of a length m, in whose columns all rows
// before end, is one of the q^r sums of multiples of the rows before, r being their rank, or raises the rank.
func rankCountsTold(lengths []int, q int) []int {
	counts := make([]int, len(lengths)+1)
	counts[0] = 1
	for _, m := range lengths {
		next := make([]int, len(counts))
		for r, n := range counts {
			if n > 0 {
				next[r] += n * raised(q, r)
			}
			if n > 0 && r < len(lengths) {
				next[r+1] += n * (raised(q, m) - raised(q, r))
			}
		}
		counts = next
	}
	return counts
}

// rowSums lists all sums of multiples of rows modulo q, each as often as it is made.
func rowSums(rows [][]int, columns, q int) [][]int {
	sums := [][]int{make([]int, columns)}
	for _, row := range rows {
		var further [][]int
		for _, sum := range sums {
			for times := 0; times < q; times++ {
				next := make([]int, columns)
				for c := range next {
					next[c] = (sum[c] + times*row[c]) % q
				}
				further = append(further, next)
			}
		}
		sums = further
	}
	return sums
}

// rankFound finds a rank: of the q^n sums of multiples of n rows with the rank r, q^(n - r) are 0 in all places.
func rankFound(rows [][]int, q int) int {
	zeros := 0
	for _, sum := range rowSums(rows, len(rows[0]), q) {
		if len(cut(sum)) == 0 {
			zeros++
		}
	}
	rank := len(rows)
	for ; zeros > 1; zeros /= q {
		rank--
	}
	return rank
}

// leadsFound finds leads: a row together with multiples of the rows before is free of their leads in just one way,
// and what is left begins at its lead.
func leadsFound(rows [][]int, q int) []int {
	var leads []int
	for r, row := range rows {
		left := map[string][]int{}
		for _, sum := range rowSums(rows[:r], len(row), q) {
			free := true
			for c := range sum {
				sum[c] = (sum[c] + row[c]) % q
			}
			for _, lead := range leads {
				free = free && (lead == -1 || sum[lead] == 0)
			}
			if free {
				left[fmt.Sprint(sum)] = sum
			}
		}
		if len(left) != 1 {
			panic("a row can be made free of leads in several ways")
		}
		for _, sum := range left {
			lead := -1
			for c := len(sum) - 1; c >= 0; c-- {
				if sum[c] != 0 {
					lead = c
				}
			}
			leads = append(leads, lead)
		}
	}
	return leads
}

// rowsOf cuts a list into rows of as many numbers as columns tells.
func rowsOf(list []int, columns int) [][]int {
	var rows [][]int
	for i := 0; i < len(list); i += columns {
		rows = append(rows, append([]int{}, list[i:i+columns]...))
	}
	return rows
}

// smallRows lists all rows of numbers in 0..q - 1 of small sizes.
func smallRows(q int) [][][]int {
	most := map[int]int{2: 9, 3: 6}[q]
	var all [][][]int
	for count := 1; count <= 6; count++ {
		for columns := 1; columns <= 6 && count*columns <= most; columns++ {
			for _, list := range allLists(count*columns, 0, q-1) {
				all = append(all, rowsOf(list, columns))
			}
		}
	}
	return all
}

// largeRows holds rows of all sizes: zeros, mixed numbers, few numbers other than 0, and rows that are multiples or
// sums of others.
func largeRows(q int) [][][]int {
	var all [][][]int
	for count := 1; count <= 6; count++ {
		for columns := 1; columns <= 6; columns++ {
			all = append(all, rowsOf(make([]int, count*columns), columns))
			for seed := 1; seed <= 12; seed++ {
				mixed, few, same, summed := make([]int, count*columns), make([]int, count*columns), make([]int, count*columns), make([]int, count*columns)
				for i := range mixed {
					mixed[i] = (seed*seed*7919 + i*i*31*seed + i*count) / 7 % q
					few[i] = max(0, (seed*104729+i*i*17+i*seed*columns)%(3*q)-2*q)
					same[i] = mixed[i%columns] * (1 + (i/columns+seed)%2) % q
					summed[i] = mixed[i]
					if i >= 2*columns {
						summed[i] = (summed[i-columns] + (seed%q)*summed[i-2*columns]) % q
					}
				}
				all = append(all, rowsOf(mixed, columns), rowsOf(few, columns), rowsOf(same, columns), rowsOf(summed, columns))
			}
		}
	}
	return all
}

// wrongRows holds what are no 1..6 rows of equally many numbers in 0..q - 1, 1..6 of them, each for one reason.
func wrongRows(q int) [][][]int {
	all := [][][]int{nil, {}, {nil}, {{}}, {{}, {}}, {nil, {1}}, {{1}, nil}, {{1}, {}}, {{}, {1}}, [][]int{{1}}[:0], {[]int{1}[:0]},
		make([][]int, 6), make([][]int, 7), make([][]int, 100000), {make([]int, 7)}, {make([]int, 64)}, {make([]int, 100000)},
		rowsOf(make([]int, 7), 1), rowsOf(make([]int, 49), 7), rowsOf(make([]int, 42), 7), rowsOf(make([]int, 42), 6), rowsOf(make([]int, 64), 1),
		{{1, 0}, {1}}, {{1}, {1, 0}}, {{1, 0}, {1, 0}, {1}}, {{1, 0}, {1, 0}, {1, 0, 1}}, {{0, 1}, {}, {0, 1}}, {{0, 1}, {0, 1, 0}, {0, 1}},
		{make([]int, 6), make([]int, 7)}, {make([]int, 7), make([]int, 6)}, {make([]int, 6), make([]int, 5)},
	}
	for _, size := range [][2]int{{1, 1}, {1, 3}, {3, 1}, {2, 2}, {6, 6}} {
		for r := 0; r < size[0]; r++ {
			for c := 0; c < size[1]; c++ {
				for _, x := range []int{-1, -2, -q, q, q + 1, 4, 63, 64, 1 << 32, -1 << 32, 1 << 62, -1 << 63, 1<<63 - 1} {
					rows := rowsOf(make([]int, size[0]*size[1]), size[1])
					rows[r][c] = x
					all = append(all, rows)
				}
			}
		}
	}
	return all
}

// wrongModuli holds numbers out of 2..3.
func wrongModuli() []int {
	return []int{1, 4, 0, -1, -2, -3, 5, 6, 7, 8, 9, 64, 1 << 32, 1<<32 + 2, 1 << 62, -1 << 63, 1<<63 - 1}
}

// fullLengths holds the lengths of the full board of n rows.
func fullLengths(n int) []int {
	lengths := make([]int, n)
	for i := range lengths {
		lengths[i] = n
	}
	return lengths
}

// onBoard puts the numbers of a list into the cells of the board of lengths, row by row, and 0 into all other places.
func onBoard(lengths, list []int) [][]int {
	rows := rowsOf(make([]int, len(lengths)*len(lengths)), len(lengths))
	for r := range rows {
		for c := 0; c < lengths[r]; c++ {
			rows[r][c], list = list[0], list[1:]
		}
	}
	return rows
}

// nextDigits makes the digits of a number by q, the last one first, those of the next number.
func nextDigits(digits []int, q int) {
	for i := range digits {
		digits[i]++
		if digits[i] < q {
			return
		}
		digits[i] = 0
	}
}

// listedLengths lists all lengths with at most 6561 matrices for q.
func listedLengths(q int) [][]int {
	most := map[int]int{2: 12, 3: 8}[q]
	var lists [][]int
	for _, lengths := range allLengthLists() {
		if together(lengths) <= most {
			lists = append(lists, lengths)
		}
	}
	return lists
}
