package tests

import (
	"fmt"
	"testing"

	"loop.example/g01125/impl"
)

// Promise 4, function by function: each result is held against what the tests count by looking at all permutations,
// or find by another way.

func TestHitHitsOf(t *testing.T) {
	for _, b := range hitBoards() {
		p := pictureOf(b)
		for _, order := range orders(b.Rows) {
			if n, ok := impl.HitsOf(b, order); !ok || n != hitsIn(p, order) {
				t.Errorf("HitsOf %v %v: %d %v instead of %d", b, order, n, ok, hitsIn(p, order))
			}
		}
		for _, list := range wrongOrders(b.Rows) {
			fails(t, fmt.Sprint("HitsOf ", b, " and a wrong list of ", len(list)), both(impl.HitsOf(b, list))...)
		}
	}
	for _, b := range otherBoards() {
		for _, n := range []int{b.Rows, b.Columns} {
			for _, order := range orders(n)[:1] {
				fails(t, fmt.Sprint("HitsOf ", b, order), both(impl.HitsOf(b, order))...)
			}
		}
	}
	known := []struct {
		text  string
		order []int
		hits  int
	}{
		{"1", []int{0}, 1}, {"0", []int{0}, 0},
		{"10/01", []int{0, 1}, 2}, {"10/01", []int{1, 0}, 0}, {"110/011/101", []int{1, 2, 0}, 3}, {"110/011/101", []int{2, 0, 1}, 0},
		{"100/100/100", []int{0, 2, 1}, 1}, {"000000/000000/000000/000000/000000/111111", []int{5, 4, 3, 2, 1, 0}, 1},
		{"000001/000010/000100/001000/010000/100000", []int{5, 4, 3, 2, 1, 0}, 6},
	}
	for _, k := range known {
		if n, ok := impl.HitsOf(of(k.text), k.order); !ok || n != k.hits {
			t.Errorf("HitsOf %s %v: %d %v instead of %d", k.text, k.order, n, ok, k.hits)
		}
	}
}

func TestHitNumbers(t *testing.T) {
	for _, b := range hitBoards() {
		want := hitCounts(b)
		if got, ok := impl.HitNumbers(b); !ok || !sameList(got, want) {
			t.Errorf("HitNumbers %v: %v %v instead of %v", b, got, ok, want)
		}
		if n, ok := impl.CountAvoiding(b); !ok || n != want[0] {
			t.Errorf("CountAvoiding %v: %d %v instead of %d", b, n, ok, want[0])
		}
	}
	for _, b := range otherBoards() {
		fails(t, fmt.Sprint("HitNumbers ", b), both(impl.HitNumbers(b))...)
		fails(t, fmt.Sprint("CountAvoiding ", b), both(impl.CountAvoiding(b))...)
	}
	known := map[string][]int{
		"10/01":       {1, 0, 1},
		"110/011/101": {1, 0, 3, 2},
		"1":           {0, 1},
		"0":           {1, 0},
		"11/11":       {0, 0, 2},
		"00/00":       {2, 0, 0},
		"111111/111111/111111/111111/111111/111111": {0, 0, 0, 0, 0, 0, 720},
		"000000/000000/000000/000000/000000/000000": {720, 0, 0, 0, 0, 0, 0},
		"000000/000000/111111/000000/000000/000000": {0, 720, 0, 0, 0, 0, 0},
		"100000/010000/001000/000100/000010/000001": {265, 264, 135, 40, 15, 0, 1},
	}
	for text, want := range known {
		if got, ok := impl.HitNumbers(of(text)); !ok || !sameList(got, want) {
			t.Errorf("HitNumbers %s: %v %v instead of %v", text, got, ok, want)
		}
		if n, ok := impl.CountAvoiding(of(text)); !ok || n != want[0] {
			t.Errorf("CountAvoiding %s: %d %v instead of %d", text, n, ok, want[0])
		}
	}
}

func TestHitHitsFromRooks(t *testing.T) {
	below, above := 0, 0
	for _, rooks := range sumLists() {
		want := hitsTold(rooks)
		if got, ok := impl.HitsFromRooks(rooks); !ok || !sameList(got, want) {
			t.Errorf("HitsFromRooks %v: %v %v instead of %v", rooks, got, ok, want)
		}
		for _, x := range want {
			if x < 0 {
				below++
			}
			if x > 1000000 {
				above++
			}
		}
	}
	if below == 0 || above == 0 {
		t.Errorf("%d hit numbers are less than 0, and %d greater than MaxHitSum", below, above)
	}
	known := []struct{ rooks, hits []int }{
		{[]int{1, 2, 1}, []int{1, 0, 1}},
		{[]int{1, 6, 9, 2}, []int{1, 0, 3, 2}},
		{[]int{1, 0}, []int{1, 0}},
		{[]int{0, 1}, []int{-1, 1}},
		{[]int{0, 0}, []int{0, 0}},
		{[]int{1, 1, 1}, []int{2, -1, 1}},
		{[]int{0, 0, 0, 0, 0, 0, 1}, []int{1, -6, 15, -20, 15, -6, 1}},
		{[]int{1000000, 0, 0, 0, 0, 0, 0}, []int{720000000, 0, 0, 0, 0, 0, 0}},
		{[]int{0, 1000000, 0, 0, 0, 0, 0}, []int{-120000000, 120000000, 0, 0, 0, 0, 0}},
	}
	for _, k := range known {
		if got, ok := impl.HitsFromRooks(k.rooks); !ok || !sameList(got, k.hits) {
			t.Errorf("HitsFromRooks %v: %v %v instead of %v", k.rooks, got, ok, k.hits)
		}
	}
	for _, list := range wrongSumLists() {
		fails(t, fmt.Sprint("HitsFromRooks, a wrong list of ", len(list)), both(impl.HitsFromRooks(list))...)
	}
}

func TestHitRooksFromHits(t *testing.T) {
	whole, others := 0, 0
	for _, hits := range sumLists() {
		want, broken := rooksTold(hits)
		got, ok := impl.RooksFromHits(hits)
		if len(broken) > 0 {
			others++
			fails(t, fmt.Sprint("RooksFromHits ", hits), got, ok)
			continue
		}
		whole++
		if !ok || !sameList(got, want) {
			t.Errorf("RooksFromHits %v: %v %v instead of %v", hits, got, ok, want)
		}
	}
	if whole < 100 || others < 100 {
		t.Errorf("%d lists have rook numbers, and %d have none", whole, others)
	}
	known := []struct{ hits, rooks []int }{
		{[]int{1, 0, 1}, []int{1, 2, 1}},
		{[]int{1, 0, 3, 2}, []int{1, 6, 9, 2}},
		{[]int{5, 3}, []int{8, 3}},
		{[]int{0, 0}, []int{0, 0}},
		{[]int{1, 1, 0}, []int{1, 1, 0}},
		{[]int{0, 2, 0}, []int{1, 2, 0}},
		{[]int{265, 264, 135, 40, 15, 0, 1}, []int{1, 6, 15, 20, 15, 6, 1}},
		{[]int{1000000, 1000000}, []int{2000000, 1000000}},
	}
	for _, k := range known {
		if got, ok := impl.RooksFromHits(k.hits); !ok || !sameList(got, k.rooks) {
			t.Errorf("RooksFromHits %v: %v %v instead of %v", k.hits, got, ok, k.rooks)
		}
	}
	for _, list := range wrongSumLists() {
		fails(t, fmt.Sprint("RooksFromHits, a wrong list of ", len(list)), both(impl.RooksFromHits(list))...)
	}
	// Numbers below 0 are none, although rook numbers may lead to them.
	fails(t, "RooksFromHits -1 1", both(impl.RooksFromHits([]int{-1, 1}))...)
	fails(t, "RooksFromHits 2 -1 1", both(impl.RooksFromHits([]int{2, -1, 1}))...)
	for _, hits := range [][]int{{1, 0, 0}, {0, 1, 2}, {1, 1, 1, 1}, {0, 0, 0, 0, 0, 0, 1}, {1, 2, 1, 1}} {
		fails(t, fmt.Sprint("RooksFromHits ", hits), both(impl.RooksFromHits(hits))...)
	}
}

// One rook number that is not whole is enough for a failure, at each index at which there may be one.
func TestHitRooksFromHitsOneBroken(t *testing.T) {
	for n := 2; n <= 6; n++ {
		for k := 0; k <= n-2; k++ {
			for factor := 1; factor <= times(n-k); factor++ {
				// The first part has rook numbers, the second one, a multiple of the power k of x - 1, adds to that of k alone.
				hits := make([]int, n+1)
				for i := range hits {
					hits[i] = 20 * times(n)
					if i <= k && (k-i)%2 == 1 {
						hits[i] -= factor * chosen(k, i)
					} else if i <= k {
						hits[i] += factor * chosen(k, i)
					}
				}
				want, broken := rooksTold(hits)
				got, ok := impl.RooksFromHits(hits)
				if factor == times(n-k) {
					if len(broken) > 0 || !ok || !sameList(got, want) {
						t.Errorf("RooksFromHits %v: %v %v instead of %v", hits, got, ok, want)
					}
					continue
				}
				if !sameList(broken, []int{k}) {
					t.Fatalf("%v: the numbers %v are not whole", hits, broken)
				}
				fails(t, fmt.Sprint("RooksFromHits ", hits), got, ok)
			}
		}
	}
}

func TestHitPermutations(t *testing.T) {
	for _, b := range hitBoards() {
		for k, want := range hitLists(b) {
			// No permutation hits more rows than there are: the list is empty, and the call succeeds.
			got, ok := impl.PermutationsHitting(b, k)
			if !ok || !sameLists(got, want) {
				t.Errorf("PermutationsHitting %v %d: %d of them, %v, instead of %d", b, k, len(got), ok, len(want))
			}
			first, ok := impl.FirstHitting(b, k)
			if len(want) == 0 {
				fails(t, fmt.Sprint("FirstHitting ", b, k), first, ok)
			} else if !ok || !sameList(first, want[0]) {
				t.Errorf("FirstHitting %v %d: %v %v instead of %v", b, k, first, ok, want[0])
			}
		}
		for _, k := range wrongRookCounts() {
			fails(t, fmt.Sprint("PermutationsHitting ", b, k), both(impl.PermutationsHitting(b, k))...)
			fails(t, fmt.Sprint("FirstHitting ", b, k), both(impl.FirstHitting(b, k))...)
		}
	}
	for _, b := range otherBoards() {
		for k := 0; k <= 6; k++ {
			fails(t, fmt.Sprint("PermutationsHitting ", b, k), both(impl.PermutationsHitting(b, k))...)
			fails(t, fmt.Sprint("FirstHitting ", b, k), both(impl.FirstHitting(b, k))...)
		}
	}
	known := []struct {
		text  string
		k     int
		lists [][]int
	}{
		{"1", 0, nil}, {"1", 1, [][]int{{0}}}, {"1", 2, nil}, {"1", 6, nil}, {"0", 0, [][]int{{0}}}, {"0", 1, nil},
		{"10/01", 0, [][]int{{1, 0}}}, {"10/01", 1, nil}, {"10/01", 2, [][]int{{0, 1}}}, {"10/01", 3, nil},
		{"110/011/101", 2, [][]int{{0, 2, 1}, {1, 0, 2}, {2, 1, 0}}}, {"110/011/101", 3, [][]int{{0, 1, 2}, {1, 2, 0}}},
	}
	for _, want := range known {
		if got, ok := impl.PermutationsHitting(of(want.text), want.k); !ok || !sameLists(got, want.lists) {
			t.Errorf("PermutationsHitting %s %d: %v %v instead of %v", want.text, want.k, got, ok, want.lists)
		}
	}
	if lists, ok := impl.PermutationsHitting(must(impl.FullBoard(6, 6)), 6); !ok || len(lists) != 720 {
		t.Error("PermutationsHitting all cells and 6:", len(lists), ok)
	}
}

func TestHitBoards(t *testing.T) {
	for n := 1; n <= 6; n++ {
		b, ok := impl.DiagonalBoard(n)
		expectBoard(t, fmt.Sprint("DiagonalBoard ", n), draw(n, n, func(r, c int) bool { return r == c }).board(), b, ok)
		b, ok = impl.AboveBoard(n)
		expectBoard(t, fmt.Sprint("AboveBoard ", n), draw(n, n, func(r, c int) bool { return r < c }).board(), b, ok)
		b, ok = impl.TableBoard(n)
		if n == 1 {
			fails(t, "TableBoard 1", b, ok)
			continue
		}
		table := draw(n, n, func(r, c int) bool { return c == r || c == r+1 || r == n-1 && c == 0 })
		expectBoard(t, fmt.Sprint("TableBoard ", n), table.board(), b, ok)
	}
	for _, n := range wrongSides() {
		fails(t, fmt.Sprint("DiagonalBoard ", n), both(impl.DiagonalBoard(n))...)
		fails(t, fmt.Sprint("AboveBoard ", n), both(impl.AboveBoard(n))...)
		fails(t, fmt.Sprint("TableBoard ", n), both(impl.TableBoard(n))...)
	}
	known := []struct {
		text string
		call func(n int) (impl.Board, bool)
		n    int
	}{
		{"1", impl.DiagonalBoard, 1}, {"100/010/001", impl.DiagonalBoard, 3},
		{"0", impl.AboveBoard, 1}, {"01/00", impl.AboveBoard, 2}, {"011/001/000", impl.AboveBoard, 3},
		{"11/11", impl.TableBoard, 2}, {"110/011/101", impl.TableBoard, 3}, {"110000/011000/001100/000110/000011/100001", impl.TableBoard, 6},
	}
	for _, k := range known {
		b, ok := k.call(k.n)
		expectBoard(t, k.text, of(k.text), b, ok)
	}
}

// wrongCounts holds numbers out of least..most, next to the bounds and far out of them.
func wrongCounts(least, most int) []int {
	return []int{least - 1, least - 2, most + 1, most + 2, -64, 63, 64, 1 << 32, -1 << 32, 1 << 62, -1 << 63, 1<<63 - 1}
}

func TestHitDerangements(t *testing.T) {
	if impl.MaxDeranged != 12 || impl.MaxHitSum != 1000000 {
		t.Error("MaxDeranged and MaxHitSum are", impl.MaxDeranged, impl.MaxHitSum)
	}
	known := []int{1, 0, 1, 2, 9, 44, 265, 1854, 14833, 133496, 1334961, 14684570, 176214841}
	for n := 0; n <= 12; n++ {
		if got, ok := impl.Derangements(n); !ok || got != known[n] || got != deranged(n) {
			t.Errorf("Derangements %d: %d %v instead of %d", n, got, ok, known[n])
		}
		for k := 0; k <= n; k++ {
			want := chosen(n, k) * known[n-k]
			if n <= 9 && want != countOrders(n).fixed[k] {
				t.Fatalf("%d permutations of %d have %d fixed numbers", countOrders(n).fixed[k], n, k)
			}
			if got, ok := impl.DerangementsWith(n, k); !ok || got != want {
				t.Errorf("DerangementsWith %d %d: %d %v instead of %d", n, k, got, ok, want)
			}
		}
		for _, k := range wrongCounts(0, n) {
			if k < 0 || k > n {
				fails(t, fmt.Sprint("DerangementsWith ", n, k), both(impl.DerangementsWith(n, k))...)
			}
		}
	}
	for _, n := range wrongCounts(0, 12) {
		fails(t, fmt.Sprint("Derangements ", n), both(impl.Derangements(n))...)
		for _, k := range []int{0, 1, 12, 13, n, n - 1, -1, 1<<63 - 1, -1 << 63} {
			fails(t, fmt.Sprint("DerangementsWith ", n, k), both(impl.DerangementsWith(n, k))...)
		}
	}
	for want, pair := range map[int][2]int{1: {0, 0}, 0: {12, 11}, 66: {12, 10}, 2: {3, 0}, 3: {3, 1}, 176214840: {12, 1}} {
		if got, ok := impl.DerangementsWith(pair[0], pair[1]); !ok || got != want {
			t.Errorf("DerangementsWith %v: %d %v instead of %d", pair, got, ok, want)
		}
	}
}

func TestHitCountCouples(t *testing.T) {
	known := []int{0, 0, 0, 1, 2, 13, 80, 579, 4738, 43387, 439792}
	for n := 2; n <= 10; n++ {
		if n >= 3 && countOrders(n).table[0] != known[n] {
			t.Fatalf("%d permutations of %d avoid the table", countOrders(n).table[0], n)
		}
		if got, ok := impl.CountCouples(n); !ok || got != known[n] {
			t.Errorf("CountCouples %d: %d %v instead of %d", n, got, ok, known[n])
		}
	}
	for _, n := range wrongCounts(2, 10) {
		fails(t, fmt.Sprint("CountCouples ", n), both(impl.CountCouples(n))...)
	}
}

func TestHitEulerNumbers(t *testing.T) {
	known := map[int][]int{
		1: {1}, 2: {1, 1}, 3: {1, 4, 1}, 4: {1, 11, 11, 1}, 5: {1, 26, 66, 26, 1},
		10: {1, 1013, 47840, 455192, 1310354, 1310354, 455192, 47840, 1013, 1},
	}
	for n := 1; n <= 10; n++ {
		want := countOrders(n).above[:n]
		if list, is := known[n]; is && !sameList(list, want) {
			t.Fatalf("%v permutations of %d are above", want, n)
		}
		if got, ok := impl.EulerNumbers(n); !ok || !sameList(got, want) {
			t.Errorf("EulerNumbers %d: %v %v instead of %v", n, got, ok, want)
		}
	}
	for _, n := range wrongCounts(1, 10) {
		fails(t, fmt.Sprint("EulerNumbers ", n), both(impl.EulerNumbers(n))...)
	}
}
