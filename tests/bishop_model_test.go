package tests

import (
	"slices"
	"sort"

	"loop.example/g01125/impl"
)

// kind is a kind of pieces: meet tells whether two of them that stand on different cells attack each other.
type kind struct {
	name string
	meet func(a, b []int) bool
}

// bishopKind, kingKind and queenKind say word by word when two pieces are not quiet.
func bishopKind() kind {
	return kind{"bishops", func(a, b []int) bool {
		return a[0]+a[1] == b[0]+b[1] || a[0]-a[1] == b[0]-b[1]
	}}
}

func kingKind() kind {
	return kind{"kings", func(a, b []int) bool {
		return far(a[0], b[0]) <= 1 && far(a[1], b[1]) <= 1
	}}
}

func queenKind() kind {
	return kind{"queens", func(a, b []int) bool {
		return a[0] == b[0] || a[1] == b[1] || far(a[0], b[0]) == far(a[1], b[1])
	}}
}

// far is the absolute difference of two numbers.
func far(a, b int) int {
	return max(a, b) - min(a, b)
}

// quiet is what is known of quiet pieces on a board: for each k, in how many ways k of them stand,
// and the lexicographically first list of their cells.
type quiet struct {
	counts []int
	firsts [][][]int
}

// quietOn finds all lists of quiet pieces by trying each cell behind the last one, so that lists come
// in lexicographic order. It keeps what it has found.
func quietOn(b impl.Board, of kind) quiet {
	p := pictureOf(b)
	key := of.name + " " + p.text()
	if found, is := quietFound[key]; is {
		return found
	}
	var found quiet
	cells := p.cells()
	var list [][]int
	var try func(next int)
	try = func(next int) {
		if k := len(list); k == len(found.counts) {
			found.counts = append(found.counts, 1)
			found.firsts = append(found.firsts, slices.Clone(list))
		} else {
			found.counts[k]++
		}
		for i := next; i < len(cells); i++ {
			if !slices.ContainsFunc(list, func(other []int) bool { return of.meet(other, cells[i]) }) {
				list = append(list, cells[i])
				try(i + 1)
				list = list[:len(list)-1]
			}
		}
	}
	try(0)
	quietFound[key] = found
	return found
}

var quietFound = map[string]quiet{}

// areApart says what quiet pieces are, pair by pair, for a list that may be any.
func areApart(p picture, cells [][]int, of kind) bool {
	for i, cell := range cells {
		if len(cell) != 2 || cell[0] < 0 || cell[0] >= len(p) || cell[1] < 0 || cell[1] >= len(p[0]) || !p[cell[0]][cell[1]] {
			return false
		}
		for _, other := range cells[:i] {
			if sameList(other, cell) || of.meet(other, cell) {
				return false
			}
		}
	}
	return true
}

// diagonalsOf lists both kinds of diagonals on which places of a colour stand, in order.
func diagonalsOf(p picture, colour int) (sums, differences []int) {
	for r, row := range p {
		for c := range row {
			if (r+c)%2 == colour {
				sums, differences = append(sums, r+c), append(differences, r-c+len(row)-1)
			}
		}
	}
	return inOrder(sums), inOrder(differences)
}

// inOrder sorts numbers and keeps one of each.
func inOrder(list []int) []int {
	sort.Ints(list)
	return slices.Compact(list)
}

// meetingPlace looks for the place on two diagonals. It is nil if there is none.
func meetingPlace(p picture, sum, difference int) []int {
	for r, row := range p {
		for c := range row {
			if r+c == sum && r-c+len(row)-1 == difference {
				return []int{r, c}
			}
		}
	}
	return nil
}

// colourPicture is the colour board, or nil if there is none.
func colourPicture(p picture, colour int) picture {
	sums, differences := diagonalsOf(p, colour)
	if len(sums) == 0 {
		return nil
	}
	return draw(len(sums), len(differences), func(i, j int) bool {
		place := meetingPlace(p, sums[i], differences[j])
		return place != nil && p[place[0]][place[1]]
	})
}

// bishopsTold lists the cells of the bishops that a placement on a colour board tells, in order.
func bishopsTold(p picture, colour int, list []int) [][]int {
	sums, differences := diagonalsOf(p, colour)
	var cells [][]int
	for i, j := range list {
		if j != -1 {
			cells = append(cells, meetingPlace(p, sums[i], differences[j]))
		}
	}
	return sortedCells(cells)
}

// sortedCells orders cells by rows and then by columns.
func sortedCells(cells [][]int) [][]int {
	sorted := slices.Clone(cells)
	sort.Slice(sorted, func(i, j int) bool { return comesBefore(sorted[i], sorted[j]) })
	return sorted
}

// pairsMeeting counts the pairs of cells on which two pieces attack each other.
func pairsMeeting(p picture, of kind) int {
	count := 0
	cells := p.cells()
	for i := range cells {
		for j := range i {
			if of.meet(cells[i], cells[j]) {
				count++
			}
		}
	}
	return count
}

// bishopBoards holds the boards on which the functions of chapter 8 are tried: also such with cells of one colour only,
// and such whose cells are in rows that touch or do not.
func bishopBoards() []impl.Board {
	list := append(sampleBoards(), mixedBoards()...)
	for rows := 1; rows <= 6; rows++ {
		for columns := 1; columns <= 6; columns++ {
			for colour := range 2 {
				list = append(list, draw(rows, columns, func(r, c int) bool { return (r+c)%2 == colour }).board())
			}
			list = append(list, draw(rows, columns, func(r, c int) bool { return true }).board())
		}
	}
	return append(list,
		of("111111/000000/111111/000000/111111/000000"), of("111111/111111/000000/000000/111111/111111"),
		of("000000/111111/111111/000000/000000/000000"), of("101010/000000/000000/010101"), of("110011/110011/000000/110011"),
		of("100001/000000/000000/000000/000000/100001"), of("110000/110000/000000/000000/000011/000011"),
		of("000100/001000/010000/100000"), of("100000/010000/001000/000100/000010/000001"),
	)
}

// wrongColours holds numbers that are no colour.
func wrongColours() []int {
	return []int{-1, 2, 3, -2, 63, 64, -64, 1 << 32, 1 << 62, -1 << 63, 1<<63 - 1}
}

// wrongPieceCounts holds numbers out of 0..12.
func wrongPieceCounts() []int {
	return []int{-1, 13, -2, 14, -12, 64, -64, 1 << 32, 1 << 62, -1 << 63, 1<<63 - 1}
}

// wrongCells holds lists of numbers that are no cell of a picture: with too few or too many numbers, with numbers
// out of the board, and places that are no cells.
func wrongCells(p picture) [][]int {
	rows, columns := len(p), len(p[0])
	list := [][]int{nil, {}, {0}, {0, 0, 0}, {0, 0, 0, 0}, make([]int, 64)}
	for _, x := range []int{-1, -2, -64, 6, 7, 63, 64, 1 << 32, 1 << 62, -1 << 63, 1<<63 - 1} {
		list = append(list, []int{x, 0}, []int{0, x}, []int{x, x})
	}
	list = append(list, []int{rows, 0}, []int{0, columns}, []int{rows, columns}, []int{rows - 1, columns}, []int{rows, columns - 1})
	for r, row := range p {
		for c, on := range row {
			if !on {
				list = append(list, []int{r, c})
			} else {
				list = append(list, []int{r}, []int{r, c, 0}, []int{r, c - columns}, []int{r - rows, c})
			}
		}
	}
	return list
}
