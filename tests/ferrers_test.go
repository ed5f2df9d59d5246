package tests

import (
	"fmt"
	"testing"

	"loop.example/g01125/impl"
)

// Promise 3, function by function: each result is held against what the tests count, draw or search themselves.

func TestFerrersAreLengths(t *testing.T) {
	for n := 1; n <= 4; n++ {
		for _, list := range allLists(n, -1, n+1) {
			want := doesNotFall(list) && list[0] >= 0 && list[n-1] <= n
			if got := impl.AreLengths(list); got != want {
				t.Errorf("AreLengths %v: %v", list, got)
			}
		}
	}
	for n := 5; n <= 6; n++ {
		for _, list := range allLists(n, 0, n) {
			if got := impl.AreLengths(list); got != doesNotFall(list) {
				t.Errorf("AreLengths %v: %v", list, got)
			}
		}
	}
	for _, list := range wrongLengths() {
		if impl.AreLengths(list) {
			t.Errorf("AreLengths %v", list)
		}
	}
	// Six numbers are the most, and the greatest ones are as great as there are numbers.
	for _, list := range [][]int{{0}, {1}, {0, 0, 0, 0, 0, 0}, {6, 6, 6, 6, 6, 6}, {0, 0, 0, 0, 0, 6}, {0, 1, 2, 3, 4, 5}, {1, 2, 3, 4, 5, 6}} {
		if !impl.AreLengths(list) {
			t.Errorf("AreLengths %v is false", list)
		}
	}
}

func TestFerrersBoards(t *testing.T) {
	for _, lengths := range allLengthLists() {
		want := pictureOfLengths(lengths).board()
		b, ok := impl.BoardOfLengths(lengths)
		expectBoard(t, fmt.Sprint("BoardOfLengths ", lengths), want, b, ok)
		if got, ok := impl.LengthsOf(want); !ok || !sameList(got, lengths) {
			t.Errorf("LengthsOf the board of %v: %v %v", lengths, got, ok)
		}
		if is, ok := impl.IsOrdered(want); !ok || !is {
			t.Errorf("IsOrdered, the board of %v: %v %v", lengths, is, ok)
		}
	}
	got, ok := impl.BoardOfLengths([]int{0, 2, 3})
	expectBoard(t, "BoardOfLengths 0 2 3", of("000/110/111"), got, ok)
}

// boardsToOrder holds ordered boards, boards that are nearly so, and others.
func boardsToOrder() []impl.Board {
	list := append(sampleBoards(), unorderedBoards()...)
	list = append(list, boardsOfSize(2, 4)...)
	for _, lengths := range append(lengthLists(4), lengthLists(6)...) {
		p := pictureOfLengths(lengths)
		for r := range p {
			for c := range p[r] {
				p[r][c] = !p[r][c]
				list = append(list, p.board())
				p[r][c] = !p[r][c]
			}
		}
	}
	return list
}

func TestFerrersIsOrdered(t *testing.T) {
	for _, b := range append(boardsToOrder(), boardsOfSize(4, 4)...) {
		lengths, want := lengthsShown(pictureOf(b))
		if is, ok := impl.IsOrdered(b); !ok || is != want {
			t.Errorf("IsOrdered %v: %v %v instead of %v", b, is, ok, want)
		}
		got, ok := impl.LengthsOf(b)
		if !want {
			fails(t, fmt.Sprint("LengthsOf ", b), got, ok)
		} else if !ok || !sameList(got, lengths) {
			t.Errorf("LengthsOf %v: %v %v instead of %v", b, got, ok, lengths)
		}
	}
	for _, b := range unorderedBoards() {
		if is, ok := impl.IsOrdered(b); is || !ok {
			t.Errorf("IsOrdered %v: %v %v", b, is, ok)
		}
		fails(t, fmt.Sprint("LengthsOf ", b), both(impl.LengthsOf(b))...)
	}
}

// expectOrder holds OrderOf against the first order found by trying all of them.
func expectOrder(t *testing.T, b impl.Board) {
	t.Helper()
	want, is := orderedBy(pictureOf(b))
	got, ok := impl.OrderOf(b)
	if !is {
		fails(t, fmt.Sprint("OrderOf ", b), got, ok)
	} else if !ok || !sameList(got, want) {
		t.Errorf("OrderOf %v: %v %v instead of %v", b, got, ok, want)
	}
}

func TestFerrersOrderOf(t *testing.T) {
	for _, b := range append(sampleBoards(), unorderedBoards()...) {
		expectOrder(t, b)
	}
	for n := 1; n <= 4; n++ {
		for _, lengths := range lengthLists(n) {
			for _, order := range orders(n) {
				expectOrder(t, must(impl.OrderRows(pictureOfLengths(lengths).board(), order)))
			}
		}
	}
	for i, lengths := range lengthLists(6) {
		some := orders(6)
		expectOrder(t, must(impl.OrderRows(pictureOfLengths(lengths).board(), some[i*131%len(some)])))
	}
	// Among equal rows the first one comes first.
	known := map[string][]int{
		"11/10/11/10":                   nil,
		"1100/1000/1100/1000":           {1, 3, 0, 2},
		"111/111/111":                   {0, 1, 2},
		"000/000/000":                   {0, 1, 2},
		"110/000/110":                   {1, 0, 2},
		"111/110/100":                   {2, 1, 0},
		"1":                             {0},
		"0":                             {0},
		"10/01":                         nil,
		"1/1":                           nil,
		"10":                            nil,
		"11111/11110/11110/10000/00000": {4, 3, 1, 2, 0},
		"110000/111111/110000/000000/111111/000000": {3, 5, 0, 2, 1, 4},
		"111111/110000/110000/110000/110000/010000": nil,
	}
	for text, want := range known {
		b := of(text)
		got, ok := impl.OrderOf(b)
		if want == nil {
			fails(t, "OrderOf "+text, got, ok)
		} else if !ok || !sameList(got, want) {
			t.Errorf("OrderOf %s: %v %v instead of %v", text, got, ok, want)
		}
	}
}

func TestFerrersFactorsOf(t *testing.T) {
	for _, lengths := range allLengthLists() {
		if got, ok := impl.FactorsOf(lengths); !ok || !sameList(got, lessIndices(lengths)) {
			t.Errorf("FactorsOf %v: %v %v instead of %v", lengths, got, ok, lessIndices(lengths))
		}
	}
	known := []struct{ lengths, factors []int }{
		{[]int{0, 1, 2}, []int{0, 0, 0}},
		{[]int{1, 1, 3}, []int{0, 1, 1}},
		{[]int{0, 2, 3}, []int{0, 1, 1}},
		{[]int{2, 2}, []int{1, 2}},
		{[]int{0}, []int{0}},
		{[]int{1}, []int{1}},
		{[]int{0, 0, 0, 0, 0, 0}, []int{-5, -4, -3, -2, -1, 0}},
		{[]int{6, 6, 6, 6, 6, 6}, []int{1, 2, 3, 4, 5, 6}},
	}
	for _, k := range known {
		if got, ok := impl.FactorsOf(k.lengths); !ok || !sameList(got, k.factors) {
			t.Errorf("FactorsOf %v: %v %v instead of %v", k.lengths, got, ok, k.factors)
		}
	}
}

func TestFerrersProductAt(t *testing.T) {
	for _, lengths := range allLengthLists() {
		for x := -20; x <= 20; x++ {
			want := 1
			for i, length := range lengths {
				want *= x + length - i
			}
			if got, ok := impl.ProductAt(lengths, x); !ok || got != want {
				t.Errorf("ProductAt %v %d: %d %v instead of %d", lengths, x, got, ok, want)
			}
		}
		for _, x := range wrongPoints() {
			fails(t, fmt.Sprint("ProductAt ", lengths, x), both(impl.ProductAt(lengths, x))...)
		}
	}
	known := []struct {
		lengths []int
		x       int
		product int
	}{
		{[]int{0, 1, 2}, 5, 125},
		{[]int{0, 1, 2}, 0, 0},
		{[]int{0, 1, 2}, -20, -8000},
		{[]int{6, 6, 6, 6, 6, 6}, 20, 21 * 22 * 23 * 24 * 25 * 26},
		{[]int{0, 0, 0, 0, 0, 0}, -20, 20 * 21 * 22 * 23 * 24 * 25},
		{[]int{0, 0, 0, 0, 0, 0}, 5, 0},
		{[]int{1}, -1, 0},
		{[]int{0}, 20, 20},
	}
	for _, k := range known {
		if got, ok := impl.ProductAt(k.lengths, k.x); !ok || got != k.product {
			t.Errorf("ProductAt %v %d: %d %v instead of %d", k.lengths, k.x, got, ok, k.product)
		}
	}
}

func TestFerrersNumbersAndFull(t *testing.T) {
	for _, lengths := range allLengthLists() {
		want := lengthNumbers(lengths)
		if got, ok := impl.NumbersOfLengths(lengths); !ok || !sameList(got, want) {
			t.Errorf("NumbersOfLengths %v: %v %v instead of %v", lengths, got, ok, want)
		}
		if got, ok := impl.FullPlacements(lengths); !ok || got != want[len(lengths)] {
			t.Errorf("FullPlacements %v: %d %v instead of %d", lengths, got, ok, want[len(lengths)])
		}
	}
	known := []struct{ lengths, numbers []int }{
		{[]int{0, 1, 2}, []int{1, 3, 1, 0}},
		{[]int{0}, []int{1, 0}},
		{[]int{1}, []int{1, 1}},
		{[]int{0, 0, 0, 0, 0, 0}, []int{1, 0, 0, 0, 0, 0, 0}},
		{[]int{0, 0, 0, 0, 0, 6}, []int{1, 6, 0, 0, 0, 0, 0}},
		{[]int{1, 1, 1, 1, 1, 1}, []int{1, 6, 0, 0, 0, 0, 0}},
		{[]int{6, 6, 6, 6, 6, 6}, []int{1, 36, 450, 2400, 5400, 4320, 720}},
		{[]int{1, 2, 3, 4, 5, 6}, []int{1, 21, 140, 350, 301, 63, 1}},
	}
	for _, k := range known {
		if got, ok := impl.NumbersOfLengths(k.lengths); !ok || !sameList(got, k.numbers) {
			t.Errorf("NumbersOfLengths %v: %v %v instead of %v", k.lengths, got, ok, k.numbers)
		}
		if got, ok := impl.FullPlacements(k.lengths); !ok || got != k.numbers[len(k.lengths)] {
			t.Errorf("FullPlacements %v: %d %v", k.lengths, got, ok)
		}
	}
}

// Two differences below 0 make a product above 0, where there is no placement.
func TestFerrersFullPlacementsOfNone(t *testing.T) {
	for _, lengths := range [][]int{{0, 0, 0}, {0, 0, 0, 4}, {1, 1, 1, 1}, {1, 1, 1, 1, 5}, {2, 2, 2, 2, 2, 6}, {0, 0, 0, 0, 0, 6}} {
		if n, ok := impl.FullPlacements(lengths); !ok || n != 0 {
			t.Errorf("FullPlacements %v: %d %v", lengths, n, ok)
		}
	}
}

func TestFerrersAreAlikeLengths(t *testing.T) {
	for n := 1; n <= 6; n++ {
		same, different := 0, 0
		for _, a := range lengthLists(n) {
			numbers := lengthNumbers(a)
			for _, b := range lengthLists(n) {
				want := sameList(numbers, lengthNumbers(b))
				if got, ok := impl.AreAlikeLengths(a, b); !ok || got != want {
					t.Errorf("AreAlikeLengths %v %v: %v %v instead of %v", a, b, got, ok, want)
				}
				if want {
					same++
				} else {
					different++
				}
			}
		}
		if same == 0 || different == 0 {
			t.Error("AreAlikeLengths:", n, same, different)
		}
	}
}

// Lists of other lengths are not alike, even if their boards have the same rook numbers without zeros at the end.
func TestFerrersAreAlikeLengthsOfOtherCounts(t *testing.T) {
	for n := 1; n <= 4; n++ {
		for m := 1; m <= 4; m++ {
			for _, a := range lengthLists(n) {
				for _, b := range lengthLists(m) {
					if got, ok := impl.AreAlikeLengths(a, b); n != m && (got || !ok) {
						t.Errorf("AreAlikeLengths %v %v: %v %v", a, b, got, ok)
					}
				}
			}
		}
	}
	pairs := [][2][]int{{{0}, {0, 0}}, {{1}, {0, 1}}, {{0, 1}, {0, 1, 2}}, {{0}, {0, 1}}, {{0, 0, 0, 0, 0}, {0, 0, 0, 0, 0, 0}}, {{1}, {1, 1, 1, 1, 1, 1}}}
	for _, p := range pairs {
		for _, pair := range [][2][]int{p, {p[1], p[0]}} {
			if got, ok := impl.AreAlikeLengths(pair[0], pair[1]); got || !ok {
				t.Errorf("AreAlikeLengths %v: %v %v", pair, got, ok)
			}
		}
	}
}

func TestFerrersClasses(t *testing.T) {
	for _, lengths := range allLengthLists() {
		want := classLists(len(lengths))[fmt.Sprint(lengthNumbers(lengths))]
		if got, ok := impl.ClassOf(lengths); !ok || !sameLists(got, want) {
			t.Errorf("ClassOf %v: %v %v instead of %v", lengths, got, ok, want)
		}
		if n, ok := impl.CountClass(lengths); !ok || n != len(want) {
			t.Errorf("CountClass %v: %d %v instead of %d", lengths, n, ok, len(want))
		}
	}
	known := []struct {
		lengths []int
		class   [][]int
	}{
		{[]int{0}, [][]int{{0}}},
		{[]int{1}, [][]int{{1}}},
		{[]int{2, 2}, [][]int{{2, 2}}},
		{[]int{0, 2}, [][]int{{0, 2}, {1, 1}}},
		{[]int{1, 1, 3}, [][]int{{0, 2, 3}, {1, 1, 3}, {1, 2, 2}}},
		{[]int{0, 0, 0, 0, 0, 0}, [][]int{{0, 0, 0, 0, 0, 0}}},
		{[]int{6, 6, 6, 6, 6, 6}, [][]int{{6, 6, 6, 6, 6, 6}}},
	}
	for _, k := range known {
		if got, ok := impl.ClassOf(k.lengths); !ok || !sameLists(got, k.class) {
			t.Errorf("ClassOf %v: %v %v instead of %v", k.lengths, got, ok, k.class)
		}
	}
}

// The only strict list with the factors is searched for among all lists.
func TestFerrersStrictOf(t *testing.T) {
	for n := 1; n <= 6; n++ {
		byFactors := map[string][][]int{}
		for _, list := range strictLists(n, 2*n-1) {
			name := fmt.Sprint(lessIndices(list))
			byFactors[name] = append(byFactors[name], list)
		}
		for _, lengths := range lengthLists(n) {
			found := byFactors[fmt.Sprint(lessIndices(lengths))]
			if len(found) != 1 {
				t.Fatalf("%v has the strict lists %v", lengths, found)
			}
			if got, ok := impl.StrictOf(lengths); !ok || !sameList(got, found[0]) {
				t.Errorf("StrictOf %v: %v %v instead of %v", lengths, got, ok, found[0])
			}
		}
	}
	known := []struct{ lengths, strict []int }{
		{[]int{1, 1, 3}, []int{0, 2, 3}},
		{[]int{2, 2}, []int{1, 3}},
		{[]int{0}, []int{0}},
		{[]int{1}, []int{1}},
		{[]int{0, 0}, []int{0, 0}},
		{[]int{1, 1}, []int{0, 2}},
		{[]int{3, 3, 3}, []int{1, 3, 5}},
		{[]int{0, 0, 0, 0, 0, 0}, []int{0, 0, 0, 0, 0, 0}},
		{[]int{6, 6, 6, 6, 6, 6}, []int{1, 3, 5, 7, 9, 11}},
		{[]int{0, 1, 2, 3, 4, 5}, []int{0, 1, 2, 3, 4, 5}},
	}
	for _, k := range known {
		if got, ok := impl.StrictOf(k.lengths); !ok || !sameList(got, k.strict) {
			t.Errorf("StrictOf %v: %v %v instead of %v", k.lengths, got, ok, k.strict)
		}
	}
}

func TestFerrersSideOfLengths(t *testing.T) {
	for _, lengths := range allLengthLists() {
		p := pictureOfLengths(lengths)
		n := len(lengths)
		side := draw(n, n, func(r, c int) bool { return p[n-1-c][n-1-r] })
		want, is := lengthsShown(side)
		if !is {
			t.Fatalf("the side of %v is %v", lengths, side)
		}
		if got, ok := impl.SideOfLengths(lengths); !ok || !sameList(got, want) {
			t.Errorf("SideOfLengths %v: %v %v instead of %v", lengths, got, ok, want)
		}
	}
	known := []struct{ lengths, side []int }{
		{[]int{0, 2, 3}, []int{1, 2, 2}},
		{[]int{1, 2, 2}, []int{0, 2, 3}},
		{[]int{1, 1, 3}, []int{1, 1, 3}},
		{[]int{0}, []int{0}},
		{[]int{1}, []int{1}},
		{[]int{0, 0, 0, 0, 0, 6}, []int{1, 1, 1, 1, 1, 1}},
		{[]int{0, 0, 0, 0, 0, 1}, []int{0, 0, 0, 0, 0, 1}},
	}
	for _, k := range known {
		if got, ok := impl.SideOfLengths(k.lengths); !ok || !sameList(got, k.side) {
			t.Errorf("SideOfLengths %v: %v %v instead of %v", k.lengths, got, ok, k.side)
		}
	}
}

// firstWith finds the first lengths with given factors among all of them.
func firstWith(factors []int) []int {
	for _, lengths := range lengthLists(len(factors)) {
		if sameList(lessIndices(lengths), factors) {
			return lengths
		}
	}
	return nil
}

// expectFrom holds LengthsFrom against firstWith.
func expectFrom(t *testing.T, factors []int) {
	t.Helper()
	want := firstWith(factors)
	got, ok := impl.LengthsFrom(factors)
	if want == nil {
		fails(t, fmt.Sprint("LengthsFrom ", factors), got, ok)
	} else if !ok || !sameList(got, want) {
		t.Errorf("LengthsFrom %v: %v %v instead of %v", factors, got, ok, want)
	}
}

func TestFerrersLengthsFrom(t *testing.T) {
	for n := 1; n <= 4; n++ {
		for _, factors := range risingLists(n, -n-1, n+2) {
			expectFrom(t, factors)
		}
	}
	for n := 5; n <= 6; n++ {
		for _, class := range classLists(n) {
			expectFrom(t, lessIndices(class[0]))
		}
		for i, factors := range risingLists(n, -n, n+1) {
			if i%23 == 0 {
				expectFrom(t, factors)
			}
		}
	}
	known := []struct{ factors, lengths []int }{
		{[]int{0, 0, 0}, []int{0, 1, 2}},
		{[]int{0, 1, 1}, []int{0, 2, 3}},
		{[]int{1, 2}, []int{2, 2}},
		{[]int{0}, []int{0}},
		{[]int{1}, []int{1}},
		{[]int{-5, -4, -3, -2, -1, 0}, []int{0, 0, 0, 0, 0, 0}},
		{[]int{1, 2, 3, 4, 5, 6}, []int{6, 6, 6, 6, 6, 6}},
		{[]int{-1, 0, 0}, []int{0, 0, 2}},
	}
	for _, k := range known {
		if got, ok := impl.LengthsFrom(k.factors); !ok || !sameList(got, k.lengths) {
			t.Errorf("LengthsFrom %v: %v %v instead of %v", k.factors, got, ok, k.lengths)
		}
	}
}

// wrongFactors holds lists that are too short or too long, that fall, or that no lengths have.
func wrongFactors() [][]int {
	return [][]int{
		nil, {}, []int{0, 0}[:0], {0, 0, 0, 0, 0, 0, 0}, {-6, -5, -4, -3, -2, -1, 0}, make([]int, 64),
		{1, 0}, {0, -1}, {0, 0, -1}, {1, 1, 0}, {2, 1}, {0, 1, 0}, {0, 0, 0, 0, 0, -1}, {6, 5, 4, 3, 2, 1},
		{-1}, {2}, {2, 2}, {-1, -1}, {-2, 0}, {-2, -2, 0}, {0, 0, 3}, {1, 1, 3}, {-1, 1}, {2, 3}, {0, 3},
		{-6, -4, -3, -2, -1, 0}, {1, 2, 3, 4, 5, 7}, {2, 2, 3, 4, 5, 6}, {0, 0, 0, 0, 0, 6}, {-5, -5, -3, -2, -1, 0},
		{-1 << 63}, {1<<63 - 1}, {-1 << 63, 1<<63 - 1}, {0, 1 << 32}, {-1 << 32, 0}, {1 << 62, 1 << 62}, {0, 1 << 62},
		{-1 << 63, 0, 0, 0, 0, 0}, {0, 0, 0, 0, 0, 1<<63 - 1},
	}
}

func TestFerrersLengthsFromInvalid(t *testing.T) {
	for _, factors := range wrongFactors() {
		if len(factors) >= 1 && len(factors) <= 6 && doesNotFall(factors) && firstWith(factors) != nil {
			t.Fatalf("%v are factors", factors)
		}
		fails(t, fmt.Sprint("LengthsFrom ", factors), both(impl.LengthsFrom(factors))...)
	}
	// Factors of some lengths in another order fall.
	for _, order := range orders(4) {
		var factors []int
		for _, i := range order {
			factors = append(factors, []int{-1, 0, 1, 2}[i])
		}
		if !doesNotFall(factors) {
			fails(t, fmt.Sprint("LengthsFrom ", factors), both(impl.LengthsFrom(factors))...)
		}
	}
}

func TestFerrersStaircaseNumbers(t *testing.T) {
	known := [][]int{nil, {1, 0}, {1, 1, 0}, {1, 3, 1, 0}, {1, 6, 7, 1, 0}, {1, 10, 25, 15, 1, 0}, {1, 15, 65, 90, 31, 1, 0}}
	for n := 1; n <= 6; n++ {
		want := countPlacings(draw(n, n, func(r, c int) bool { return c < r }))
		if got, ok := impl.StaircaseNumbers(n); !ok || !sameList(got, want) || !sameList(got, known[n]) {
			t.Errorf("StaircaseNumbers %d: %v %v instead of %v", n, got, ok, want)
		}
	}
	for _, n := range wrongSides() {
		fails(t, fmt.Sprint("StaircaseNumbers ", n), both(impl.StaircaseNumbers(n))...)
	}
}
