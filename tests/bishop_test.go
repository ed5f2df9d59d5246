package tests

import (
	"fmt"
	"slices"
	"testing"

	"loop.example/g01125/impl"
)

// Promise 8, function by function: each result is held against what the tests find by looking at all places,
// or by trying all lists of cells, pair by pair.

func TestBishopDiagonalOf(t *testing.T) {
	for _, b := range bishopBoards() {
		for r := range b.Rows {
			for c := range b.Columns {
				sum, difference, ok := impl.DiagonalOf(b, r, c)
				if !ok || sum != r+c || difference != r-c+b.Columns-1 {
					t.Errorf("DiagonalOf %v %d %d: %d %d %v", b, r, c, sum, difference, ok)
				}
			}
			for _, wrong := range wrongIndices(b.Columns) {
				fails(t, fmt.Sprint("DiagonalOf ", b, r, wrong), three(impl.DiagonalOf(b, r, wrong))...)
			}
		}
		for _, wrong := range wrongIndices(b.Rows) {
			for _, c := range append(wrongIndices(b.Columns), 0, b.Columns-1) {
				fails(t, fmt.Sprint("DiagonalOf ", b, wrong, c), three(impl.DiagonalOf(b, wrong, c))...)
			}
		}
	}
	known := []struct {
		text                  string
		r, c, sum, difference int
	}{
		{"1", 0, 0, 0, 0}, {"0", 0, 0, 0, 0}, {"000000", 0, 5, 5, 0}, {"000000", 0, 0, 0, 5}, {"0/0/0/0/0/0", 5, 0, 5, 5},
		{"110/011", 1, 0, 1, 3}, {"110/011", 0, 2, 2, 0}, {"111111/111111/111111/111111/111111/111111", 5, 5, 10, 5},
		{"111111/111111/111111/111111/111111/111111", 5, 0, 5, 10}, {"111111/111111/111111/111111/111111/111111", 0, 5, 5, 0},
	}
	for _, k := range known {
		if sum, difference, ok := impl.DiagonalOf(of(k.text), k.r, k.c); !ok || sum != k.sum || difference != k.difference {
			t.Errorf("DiagonalOf %s %d %d: %d %d %v", k.text, k.r, k.c, sum, difference, ok)
		}
	}
}

func TestBishopColourBoard(t *testing.T) {
	for _, b := range bishopBoards() {
		for colour := range 2 {
			want := colourPicture(pictureOf(b), colour)
			got, ok := impl.ColourBoard(b, colour)
			if want == nil {
				fails(t, fmt.Sprint("ColourBoard ", b, colour), got, ok)
				continue
			}
			expectBoard(t, fmt.Sprint("ColourBoard ", b, colour), want.board(), got, ok)
		}
		for _, colour := range wrongColours() {
			fails(t, fmt.Sprint("ColourBoard ", b, colour), both(impl.ColourBoard(b, colour))...)
		}
	}
	known := []struct{ text, even, odd string }{
		{"111/111/111", "010/111/010", "11/11"},
		{"1", "1", ""},
		{"0", "0", ""},
		{"10", "1", "0"},
		{"0/1", "0", "1"},
		{"111111", "001/010/100", "001/010/100"},
		{"11010", "001/000/000", "01/10"},
		{"1/1/0/1", "10/00", "10/01"},
		{"110/011", "01/01", "10/10"},
		{"111/111", "01/11", "11/10"},
		{"11/11/11", "10/11", "11/01"},
		{"010/101/010", "000/000/000", "11/11"},
		{"101/010/101", "010/111/010", "00/00"},
		{"111111/111111/111111/111111/111111/111111", "00100/01110/11111/11111/01110/00100", "001100/011110/111111/011110/001100"},
	}
	for _, k := range known {
		for colour, text := range []string{k.even, k.odd} {
			got, ok := impl.ColourBoard(of(k.text), colour)
			if text == "" {
				fails(t, fmt.Sprint("ColourBoard ", k.text, colour), got, ok)
			} else if !ok || pictureOf(got).text() != text {
				t.Errorf("ColourBoard %s %d: %v %v instead of %s", k.text, colour, got, ok, text)
			}
		}
	}
}

// expectPlace checks CellOfColour.
func expectPlace(t *testing.T, b impl.Board, colour, i, j int) {
	t.Helper()
	var want []int
	if p := pictureOf(b); colour == 0 || colour == 1 {
		sums, differences := diagonalsOf(p, colour)
		if i >= 0 && i < len(sums) && j >= 0 && j < len(differences) {
			want = meetingPlace(p, sums[i], differences[j])
		}
	}
	r, c, ok := impl.CellOfColour(b, colour, i, j)
	if want == nil {
		fails(t, fmt.Sprint("CellOfColour ", b, colour, i, j), r, c, ok)
	} else if !ok || !sameList([]int{r, c}, want) {
		t.Errorf("CellOfColour %v %d %d %d: %d %d %v instead of %v", b, colour, i, j, r, c, ok, want)
	}
}

func TestBishopCellOfColour(t *testing.T) {
	// The cells do not count, so that boards of each size are enough.
	for _, b := range append(edgeBoards(), mixedBoards()...) {
		for colour := range 2 {
			for i := -2; i < 8; i++ {
				for j := -2; j < 8; j++ {
					expectPlace(t, b, colour, i, j)
				}
				for _, wrong := range wrongIndices(6) {
					expectPlace(t, b, colour, i, wrong)
					expectPlace(t, b, colour, wrong, i)
				}
			}
		}
		for _, colour := range wrongColours() {
			expectPlace(t, b, colour, 0, 0)
			expectPlace(t, b, colour, 1, 1)
		}
	}
	known := []struct {
		text         string
		colour, i, j int
		place        []int
	}{
		{"111/111/111", 0, 0, 1, []int{0, 0}}, {"000/000/000", 0, 0, 1, []int{0, 0}}, {"111/111/111", 0, 0, 0, nil},
		{"111/111/111", 0, 1, 0, []int{0, 2}}, {"111/111/111", 0, 1, 2, []int{2, 0}}, {"111/111/111", 0, 2, 1, []int{2, 2}},
		{"111/111/111", 1, 0, 0, []int{0, 1}}, {"111/111/111", 1, 1, 0, []int{1, 2}}, {"111/111/111", 1, 1, 1, []int{2, 1}},
		{"111/111/111", 1, 2, 0, nil}, {"111/111/111", 1, 0, 2, nil}, {"1", 0, 0, 0, []int{0, 0}}, {"1", 1, 0, 0, nil}, {"0", 0, 0, 0, []int{0, 0}},
		{"111111", 0, 0, 2, []int{0, 0}}, {"111111", 0, 1, 1, []int{0, 2}}, {"111111", 0, 0, 0, nil}, {"111111", 1, 2, 0, []int{0, 5}},
		{"0/0/0/0/0/0", 1, 0, 0, []int{1, 0}}, {"0/0/0/0/0/0", 1, 0, 1, nil}, {"000000/000000/000000/000000/000000/000000", 1, 0, 0, nil},
	}
	for _, k := range known {
		r, c, ok := impl.CellOfColour(of(k.text), k.colour, k.i, k.j)
		if k.place == nil {
			fails(t, fmt.Sprint("CellOfColour ", k), r, c, ok)
		} else if !ok || !sameList([]int{r, c}, k.place) {
			t.Errorf("CellOfColour %v: %d %d %v", k, r, c, ok)
		}
	}
}

// numbersCalls are the functions that count pieces of one kind.
type numbersCalls struct {
	of      kind
	numbers func(b impl.Board) ([]int, bool)
	most    func(b impl.Board) (int, bool)
}

func countingCalls() []numbersCalls {
	return []numbersCalls{
		{bishopKind(), impl.BishopNumbers, impl.MostBishops},
		{kingKind(), impl.KingNumbers, impl.MostKings},
	}
}

func TestBishopAndKingNumbers(t *testing.T) {
	for _, f := range countingCalls() {
		sizes := map[int]bool{}
		for _, b := range bishopBoards() {
			want := quietOn(b, f.of).counts
			sizes[len(want)-1] = true
			if got, ok := f.numbers(b); !ok || !sameList(got, want) {
				t.Errorf("the numbers of %s on %v: %v %v instead of %v", f.of.name, b, got, ok, want)
			}
			if got, ok := f.most(b); !ok || got != len(want)-1 {
				t.Errorf("the most %s on %v: %d %v instead of %d", f.of.name, b, got, ok, len(want)-1)
			}
		}
		for k := 0; k <= 9; k++ {
			if !sizes[k] {
				t.Errorf("on no board there are at most %d %s", k, f.of.name)
			}
		}
	}
}

func TestBishopAndKingNumbersKnown(t *testing.T) {
	known := []struct {
		text           string
		bishops, kings []int
	}{
		{"111/111/111", []int{1, 9, 26, 26, 8}, []int{1, 9, 16, 8, 1}},
		{"1", []int{1, 1}, []int{1, 1}},
		{"0", []int{1}, []int{1}},
		{"000000/000000/000000/000000/000000/000000", []int{1}, []int{1}},
		{"111111", []int{1, 6, 15, 20, 15, 6, 1}, []int{1, 6, 10, 4}},
		{"1/1/1/1/1/1", []int{1, 6, 15, 20, 15, 6, 1}, []int{1, 6, 10, 4}},
		{"1/1/0/1", []int{1, 3, 3, 1}, []int{1, 3, 2}},
		{"11/11", []int{1, 4, 4}, []int{1, 4}},
		{"10/01", []int{1, 2}, []int{1, 2}},
		{"01/00/01", []int{1, 2, 1}, []int{1, 2, 1}},
		{"101/010/101", []int{1, 5, 4}, []int{1, 5, 6, 4, 1}},
		{"010/101/010", []int{1, 4, 2}, []int{1, 4, 2}},
		{"111/000/111", []int{1, 6, 13, 12, 4}, []int{1, 6, 11, 6, 1}},
		// Six rows of six, and the corners alone, which are on two long diagonals.
		{"111111/111111/111111/111111/111111/111111", []int{1, 36, 520, 3896, 16428, 39680, 53744, 38368, 12944, 1600, 64}, []int{1, 36, 520, 3920, 16834, 42368, 62266, 51504, 21792, 3600}},
		{"100001/000000/000000/000000/000000/100001", []int{1, 4, 4}, []int{1, 4, 6, 4, 1}},
	}
	for _, k := range known {
		if got, ok := impl.BishopNumbers(of(k.text)); !ok || !sameList(got, k.bishops) {
			t.Errorf("BishopNumbers %s: %v %v instead of %v", k.text, got, ok, k.bishops)
		}
		if got, ok := impl.MostBishops(of(k.text)); !ok || got != len(k.bishops)-1 {
			t.Errorf("MostBishops %s: %d %v", k.text, got, ok)
		}
		if got, ok := impl.KingNumbers(of(k.text)); !ok || !sameList(got, k.kings) {
			t.Errorf("KingNumbers %s: %v %v instead of %v", k.text, got, ok, k.kings)
		}
		if got, ok := impl.MostKings(of(k.text)); !ok || got != len(k.kings)-1 {
			t.Errorf("MostKings %s: %d %v", k.text, got, ok)
		}
	}
}

// quietCalls are the functions that look at a list of cells of one kind of pieces.
type quietCalls struct {
	of    kind
	quiet func(b impl.Board, cells [][]int) (bool, bool)
	first func(b impl.Board, k int) ([][]int, bool)
}

func listingCalls() []quietCalls {
	return []quietCalls{
		{bishopKind(), impl.AreQuietBishops, impl.FirstBishops},
		{kingKind(), impl.AreQuietKings, impl.FirstKings},
	}
}

// expectQuiet checks for a list of cells that may be any, in its order and backwards, whether pieces are quiet,
// and reports it.
func expectQuiet(t *testing.T, f quietCalls, b impl.Board, cells [][]int) bool {
	t.Helper()
	want := areApart(pictureOf(b), cells, f.of)
	reversed := slices.Clone(cells)
	slices.Reverse(reversed)
	for _, list := range [][][]int{cells, reversed} {
		if got, ok := f.quiet(b, list); !ok || got != want {
			t.Errorf("%s on %v in %v: %v %v instead of %v", f.of.name, b, list, got, ok, want)
		}
	}
	return want
}

// All lists of up to three places, in any order, with the same one twice, cells or not, inside of the board or not.
func TestBishopAndKingQuietShortLists(t *testing.T) {
	for _, f := range listingCalls() {
		quiet, not := 0, 0
		for _, text := range []string{"1", "0", "11", "1/1", "10/01", "11/11", "01/11", "111", "1/0/1", "101/010", "11/01/10", "111/111/111", "101/000/101"} {
			b := of(text)
			var places [][]int
			for r := -1; r <= b.Rows; r++ {
				for c := -1; c <= b.Columns; c++ {
					places = append(places, []int{r, c})
				}
			}
			for length := range 4 {
				for _, choice := range allLists(length, 0, len(places)-1) {
					var cells [][]int
					for _, i := range choice {
						cells = append(cells, places[i])
					}
					if expectQuiet(t, f, b, cells) {
						quiet++
					} else {
						not++
					}
				}
			}
		}
		if quiet < 150 || not < 150 {
			t.Errorf("%s are quiet %d times and not %d times", f.of.name, quiet, not)
		}
	}
}

// On boards of all sizes, quiet pieces with one more, one fewer, one moved and one that is wrong.
func TestBishopAndKingQuietLists(t *testing.T) {
	for _, f := range listingCalls() {
		for i, b := range bishopBoards() {
			p := pictureOf(b)
			for k, first := range quietOn(b, f.of).firsts {
				if !expectQuiet(t, f, b, first) {
					t.Errorf("%s are not quiet in %v", f.of.name, first)
				}
				for at := range first {
					expectQuiet(t, f, b, slices.Delete(slices.Clone(first), at, at+1))
					expectQuiet(t, f, b, slices.Insert(slices.Clone(first), k-at, first[at]))
				}
				if i%5 != 0 {
					continue
				}
				for _, cell := range p.cells() {
					expectQuiet(t, f, b, append(slices.Clone(first), cell))
					for at := range first {
						moved := slices.Clone(first)
						moved[at] = cell
						expectQuiet(t, f, b, moved)
					}
				}
			}
		}
	}
}

// One wrong cell, alone and before, between and behind others, makes no pieces quiet; it does not make the call fail.
func TestBishopAndKingQuietWrongCells(t *testing.T) {
	for _, f := range listingCalls() {
		for i, b := range append(bishopBoards(), edgeBoards()...) {
			firsts := quietOn(b, f.of).firsts
			for j, wrong := range wrongCells(pictureOf(b)) {
				if i%3 != 0 && j%5 != 0 {
					continue
				}
				for _, first := range [][][]int{nil, firsts[len(firsts)/2], firsts[len(firsts)-1]} {
					for at := range len(first) + 1 {
						if expectQuiet(t, f, b, slices.Insert(slices.Clone(first), at, wrong)) {
							t.Errorf("%s are quiet with %v", f.of.name, wrong)
						}
					}
				}
			}
		}
	}
}

func TestBishopAndKingQuietKnown(t *testing.T) {
	full := must(impl.FullBoard(6, 6))
	known := []struct {
		b              impl.Board
		cells          [][]int
		bishops, kings bool
	}{
		{full, nil, true, true},
		{full, [][]int{}, true, true},
		{full, [][]int{{5, 5}}, true, true},
		{full, [][]int{{6, 5}}, false, false},
		{full, [][]int{{5, 6}}, false, false},
		{full, [][]int{{0, 0}, {0, 0}}, false, false},
		// In one row, in rows that are neighbours, and in rows that differ by 2.
		{full, [][]int{{2, 2}, {2, 3}}, true, false},
		{full, [][]int{{2, 2}, {2, 4}}, true, true},
		{full, [][]int{{2, 2}, {3, 2}}, true, false},
		{full, [][]int{{2, 2}, {3, 3}}, false, false},
		{full, [][]int{{2, 2}, {3, 1}}, false, false},
		{full, [][]int{{2, 2}, {3, 4}}, true, true},
		{full, [][]int{{2, 2}, {3, 0}}, true, true},
		{full, [][]int{{2, 2}, {4, 2}}, true, true},
		{full, [][]int{{2, 2}, {4, 3}}, true, true},
		{full, [][]int{{2, 2}, {4, 4}}, false, true},
		{full, [][]int{{2, 2}, {4, 0}}, false, true},
		{full, [][]int{{0, 0}, {5, 5}}, false, true},
		{full, [][]int{{5, 0}, {0, 5}}, false, true},
		{full, [][]int{{5, 0}, {0, 4}}, true, true},
		{full, [][]int{{0, 1}, {1, 0}, {0, 3}}, false, false},
		{full, [][]int{{4, 4}, {0, 0}, {2, 2}, {0, 2}, {2, 0}, {4, 2}, {2, 4}, {0, 4}, {4, 0}}, false, true},
		{full, [][]int{{0, 5}, {0, 4}, {0, 3}, {0, 2}, {0, 1}, {0, 0}, {5, 1}, {5, 2}, {5, 3}, {5, 4}}, true, false},
		// Pieces attack across places that are no cells.
		{of("100/000/001"), [][]int{{0, 0}, {2, 2}}, false, true},
		{of("100/000/001"), [][]int{{0, 0}, {1, 1}}, false, false},
		{of("100/000/001"), [][]int{{0, 0}, {2, 2}, {0, 1}}, false, false},
	}
	for _, k := range known {
		if got, ok := impl.AreQuietBishops(k.b, k.cells); !ok || got != k.bishops {
			t.Errorf("AreQuietBishops %v %v: %v %v", k.b, k.cells, got, ok)
		}
		if got, ok := impl.AreQuietKings(k.b, k.cells); !ok || got != k.kings {
			t.Errorf("AreQuietKings %v %v: %v %v", k.b, k.cells, got, ok)
		}
	}
}

func TestBishopBishopsOf(t *testing.T) {
	sizes := map[int]bool{}
	for _, b := range bishopBoards() {
		p := pictureOf(b)
		for colour := range 2 {
			coloured := colourPicture(p, colour)
			if coloured == nil {
				for _, list := range [][]int{nil, {}, {-1}, {0}} {
					fails(t, fmt.Sprint("BishopsOf ", b, colour, list), both(impl.BishopsOf(b, colour, list))...)
				}
				continue
			}
			for _, list := range someOf(coloured.board()) {
				want := bishopsTold(p, colour, list)
				sizes[len(want)] = true
				if got, ok := impl.BishopsOf(b, colour, list); !ok || !sameLists(got, want) {
					t.Errorf("BishopsOf %v %d %v: %v %v instead of %v", b, colour, list, got, ok, want)
				}
			}
			for _, list := range wrongPlacings(coloured.board()) {
				fails(t, fmt.Sprint("BishopsOf ", b, colour, list), both(impl.BishopsOf(b, colour, list))...)
			}
		}
		for _, colour := range wrongColours() {
			for _, list := range [][]int{nil, {-1}, {-1, -1}, {-1, -1, -1}, {0}} {
				fails(t, fmt.Sprint("BishopsOf ", b, colour, list), both(impl.BishopsOf(b, colour, list))...)
			}
		}
	}
	for k := range 6 {
		if !sizes[k] {
			t.Error("no placement tells", k, "bishops")
		}
	}
}

func TestBishopBishopsOfKnown(t *testing.T) {
	known := []struct {
		text   string
		colour int
		list   []int
		cells  [][]int
	}{
		{"111/111/111", 0, []int{-1, -1, -1}, nil},
		{"111/111/111", 0, []int{1, -1, -1}, [][]int{{0, 0}}},
		{"111/111/111", 0, []int{1, 0, -1}, [][]int{{0, 0}, {0, 2}}},
		// The bishop of the later row stands before the other one.
		{"111/111/111", 0, []int{-1, 2, 1}, [][]int{{2, 0}, {2, 2}}},
		{"111/111/111", 0, []int{-1, 0, 1}, [][]int{{0, 2}, {2, 2}}},
		{"111/111/111", 1, []int{1, 0}, [][]int{{1, 0}, {1, 2}}},
		{"111/111/111", 1, []int{0, 1}, [][]int{{0, 1}, {2, 1}}},
		{"111/111/111", 1, []int{-1, 0}, [][]int{{1, 2}}},
		{"111111", 0, []int{2, 1, 0}, [][]int{{0, 0}, {0, 2}, {0, 4}}},
		{"1/1/1/1/1/1", 1, []int{0, 1, 2}, [][]int{{1, 0}, {3, 0}, {5, 0}}},
		{"1", 0, []int{0}, [][]int{{0, 0}}},
		{"1", 0, []int{-1}, nil},
		{"0", 0, []int{-1}, nil},
		{"0000/0000", 1, []int{-1, -1}, nil},
	}
	for _, k := range known {
		if got, ok := impl.BishopsOf(of(k.text), k.colour, k.list); !ok || !sameLists(got, k.cells) {
			t.Errorf("BishopsOf %s %d %v: %v %v instead of %v", k.text, k.colour, k.list, got, ok, k.cells)
		}
	}
	// Lists for the board itself, for the other colour, and for a place that is no cell or is outside of the board.
	for _, list := range [][]int{{0, -1, -1}, {-1, -1}, {0, 1}, {1, 0, 2, -1}, {1, 1, -1}, {-1, 0, 0}} {
		fails(t, fmt.Sprint("BishopsOf ", list), both(impl.BishopsOf(of("111/111/111"), 0, list))...)
	}
	fails(t, "BishopsOf, no cell", both(impl.BishopsOf(of("011/111/111"), 0, []int{1, -1, -1}))...)
}

func TestBishopAndKingFirsts(t *testing.T) {
	for _, f := range listingCalls() {
		for _, b := range bishopBoards() {
			firsts := quietOn(b, f.of).firsts
			for k := 0; k <= 12; k++ {
				got, ok := f.first(b, k)
				if k >= len(firsts) {
					fails(t, fmt.Sprint("the first ", k, " ", f.of.name, " on ", b), got, ok)
				} else if !ok || !sameLists(got, firsts[k]) {
					t.Errorf("the first %d %s on %v: %v %v instead of %v", k, f.of.name, b, got, ok, firsts[k])
				}
			}
			for _, k := range wrongPieceCounts() {
				fails(t, fmt.Sprint("the first ", k, " ", f.of.name, " on ", b), both(f.first(b, k))...)
			}
		}
	}
}

func TestBishopAndKingFirstsKnown(t *testing.T) {
	known := []struct {
		text           string
		bishops, kings [][]int
	}{
		{"111/111/111", [][]int{{0, 0}, {0, 1}, {0, 2}, {2, 1}}, [][]int{{0, 0}, {0, 2}, {2, 0}, {2, 2}}},
		{"111111", [][]int{{0, 0}, {0, 1}, {0, 2}, {0, 3}, {0, 4}, {0, 5}}, [][]int{{0, 0}, {0, 2}, {0, 4}}},
		{"1/1/1/1/1", [][]int{{0, 0}, {1, 0}, {2, 0}, {3, 0}, {4, 0}}, [][]int{{0, 0}, {2, 0}, {4, 0}}},
		{"0", nil, nil},
		{"0001", [][]int{{0, 3}}, [][]int{{0, 3}}},
		// The first cell alone would leave room for too few.
		{"010/101", [][]int{{1, 0}, {1, 2}}, [][]int{{1, 0}, {1, 2}}},
		{"01110/10001", [][]int{{0, 1}, {0, 2}, {0, 3}}, [][]int{{0, 2}, {1, 0}, {1, 4}}},
	}
	for _, k := range known {
		if got, ok := impl.FirstBishops(of(k.text), len(k.bishops)); !ok || !sameLists(got, k.bishops) {
			t.Errorf("FirstBishops %s: %v %v instead of %v", k.text, got, ok, k.bishops)
		}
		fails(t, "FirstBishops, one more", both(impl.FirstBishops(of(k.text), len(k.bishops)+1))...)
		if got, ok := impl.FirstKings(of(k.text), len(k.kings)); !ok || !sameLists(got, k.kings) {
			t.Errorf("FirstKings %s: %v %v instead of %v", k.text, got, ok, k.kings)
		}
		fails(t, "FirstKings, one more", both(impl.FirstKings(of(k.text), len(k.kings)+1))...)
	}
}

func TestBishopCountBoth(t *testing.T) {
	for _, b := range bishopBoards() {
		counts := quietOn(b, queenKind()).counts
		for k := 0; k <= 12; k++ {
			want := 0
			if k < len(counts) {
				want = counts[k]
			}
			if got, ok := impl.CountBoth(b, k); !ok || got != want {
				t.Errorf("CountBoth %v %d: %d %v instead of %d", b, k, got, ok, want)
			}
		}
		for _, k := range wrongPieceCounts() {
			fails(t, fmt.Sprint("CountBoth ", b, k), both(impl.CountBoth(b, k))...)
		}
	}
	known := map[string][]int{
		"111/111/111": {1, 9, 8, 0, 0}, "1": {1, 1, 0, 0}, "0": {1, 0, 0}, "11/11": {1, 4, 0}, "111111": {1, 6, 0}, "1/1/1": {1, 3, 0},
		"1111/1111/1111/1111":                       {1, 16, 44, 24, 2, 0},
		"11111/11111/11111/11111/11111":             {1, 25, 140, 204, 82, 10, 0},
		"111111/111111/111111/111111/111111/111111": {1, 36, 340, 1024, 982, 248, 4, 0, 0, 0, 0, 0, 0},
		// Queens attack across a place that is no cell.
		"100/000/001": {1, 2, 0}, "101": {1, 2, 0}, "100/001": {1, 2, 1, 0},
	}
	for text, want := range known {
		for k, count := range want {
			if got, ok := impl.CountBoth(of(text), k); !ok || got != count {
				t.Errorf("CountBoth %s %d: %d %v instead of %d", text, k, got, ok, count)
			}
		}
	}
}

func TestBishopQueenPairs(t *testing.T) {
	for _, b := range bishopBoards() {
		want := pairsMeeting(pictureOf(b), queenKind())
		if got, ok := impl.QueenPairs(b); !ok || got != want {
			t.Errorf("QueenPairs %v: %d %v instead of %d", b, got, ok, want)
		}
	}
	known := map[string]int{
		"111/111/111": 28, "1": 0, "0": 0, "11": 1, "1/1": 1, "10/01": 1, "11/11": 6, "111111": 15, "1/0/0/0/0/1": 1,
		"100/001": 0, "101/000/101": 6, "100/000/010": 0, "000000": 0, "111111/111111/111111/111111/111111/111111": 290,
	}
	for text, want := range known {
		if got, ok := impl.QueenPairs(of(text)); !ok || got != want {
			t.Errorf("QueenPairs %s: %d %v instead of %d", text, got, ok, want)
		}
	}
}
