package tests

import (
	"testing"

	"loop.example/g01125/impl"
)

// Promise 4: hit numbers and rook numbers tell each other, and known numbers are hits of known boards.

func TestHitLawsOfRooks(t *testing.T) {
	for _, b := range hitBoards() {
		rooks, hits := must(impl.RookNumbers(b)), must(impl.HitNumbers(b))
		if !sameList(must(impl.HitsFromRooks(rooks)), hits) {
			t.Errorf("%v: the hit numbers %v do not come from the rook numbers %v", b, hits, rooks)
		}
		if !sameList(must(impl.RooksFromHits(hits)), rooks) {
			t.Errorf("%v: the hit numbers %v do not lead back to the rook numbers %v", b, hits, rooks)
		}
		if !belong(rooks, hits) {
			t.Errorf("%v: the rook numbers %v and the hit numbers %v have other sums", b, rooks, hits)
		}
	}
}

// Boards of one size have the same hit numbers exactly if they have the same rook numbers.
func TestHitLawsOfAlikeBoards(t *testing.T) {
	for n := 1; n <= 3; n++ {
		list := boardsOfSize(n, n)
		for i, a := range list {
			for j := 0; j < i; j += 1 + n*n/3 {
				same := sameList(must(impl.HitNumbers(a)), must(impl.HitNumbers(list[j])))
				if same != must(impl.AreAlike(a, list[j])) {
					t.Errorf("%v and %v: the same hit numbers is %v", a, list[j], same)
				}
			}
		}
	}
}

func TestHitLawsOfComplements(t *testing.T) {
	for _, b := range hitBoards() {
		n := b.Rows
		not := must(impl.ComplementOf(b))
		hits := must(impl.HitNumbers(b))
		if len(hits) != n+1 || together(hits) != times(n) {
			t.Errorf("%v: the hit numbers %v are not all permutations", b, hits)
		}
		if !sameList(must(impl.HitNumbers(not)), backwards(hits)) {
			t.Errorf("%v: the hit numbers of the complement are not %v in the opposite order", b, hits)
		}
		if !sameList(must(impl.RooksFromHits(backwards(hits))), must(impl.NumbersOfComplement(b))) {
			t.Errorf("%v: the hit numbers in the opposite order have other rook numbers than the complement", b)
		}
		if n := must(impl.CountAvoiding(b)); n != hits[0] || n != must(impl.PermanentOf(not)) {
			t.Errorf("%v: %d permutations avoid it, with the hit numbers %v", b, n, hits)
		}
		if must(impl.CountAvoiding(not)) != hits[n] || must(impl.PermanentOf(b)) != hits[n] {
			t.Errorf("%v: the last one of the hit numbers %v", b, hits)
		}
	}
}

func TestHitLawsOfPermutations(t *testing.T) {
	for _, b := range hitBoards() {
		hits := must(impl.HitNumbers(b))
		listed := 0
		for k := 0; k <= impl.MaxSide; k++ {
			lists := must(impl.PermutationsHitting(b, k))
			listed += len(lists)
			if k < len(hits) && len(lists) != hits[k] || k >= len(hits) && len(lists) > 0 {
				t.Errorf("%v: %d permutations hit %d rows, with the hit numbers %v", b, len(lists), k, hits)
			}
			first, ok := impl.FirstHitting(b, k)
			if ok != (len(lists) > 0) || ok && !sameList(first, lists[0]) {
				t.Errorf("%v: the first permutation that hits %d rows is %v", b, k, first)
			}
			for i, order := range lists {
				if must(impl.HitsOf(b, order)) != k {
					t.Errorf("%v: %v does not hit %d rows", b, order, k)
				}
				if i > 0 && !comesBefore(lists[i-1], order) {
					t.Errorf("%v: %v is not behind %v", b, order, lists[i-1])
				}
			}
		}
		if listed != times(b.Rows) {
			t.Errorf("%v: %d permutations are listed", b, listed)
		}
	}
}

// Hits do not change when the rows are put in another order, or the board is turned or mirrored.
func TestHitLawsOfTurns(t *testing.T) {
	some := orders(6)
	for i, b := range hitBoards() {
		hits := must(impl.HitNumbers(b))
		others := []impl.Board{must(impl.TurnBoard(b)), must(impl.MirrorBoard(b))}
		if b.Rows == 6 {
			others = append(others, must(impl.OrderRows(b, some[i*311%len(some)])))
		}
		for _, other := range others {
			if !sameList(must(impl.HitNumbers(other)), hits) {
				t.Errorf("%v has other hit numbers than %v", other, b)
			}
		}
		for _, order := range orders(b.Rows)[:min(24, times(b.Rows))] {
			back := make([]int, len(order))
			for r, c := range order {
				back[c] = r
			}
			if must(impl.HitsOf(others[0], back)) != must(impl.HitsOf(b, order)) {
				t.Errorf("%v: %v hits another number of rows of the turned board", b, back)
			}
		}
	}
}

// Lists that belong to no board follow the rule, too, and lead back where the call succeeds.
func TestHitLawsOfLists(t *testing.T) {
	for _, list := range sumLists() {
		hits := must(impl.HitsFromRooks(list))
		if !belong(list, hits) {
			t.Errorf("the rook numbers %v have the hit numbers %v", list, hits)
		}
		right := true
		for _, x := range hits {
			right = right && x >= 0 && x <= impl.MaxHitSum
		}
		back, ok := impl.RooksFromHits(hits)
		if ok != right || ok && !sameList(back, list) {
			t.Errorf("the rook numbers %v have the hit numbers %v, which lead to %v %v", list, hits, back, ok)
		}
		rooks, ok := impl.RooksFromHits(list)
		if !ok {
			continue
		}
		if !belong(rooks, list) {
			t.Errorf("the hit numbers %v have the rook numbers %v", list, rooks)
		}
		if again, ok := impl.HitsFromRooks(rooks); ok && !sameList(again, list) {
			t.Errorf("the hit numbers %v have the rook numbers %v, which lead to %v", list, rooks, again)
		}
	}
}

func TestHitLawsOfKnownBoards(t *testing.T) {
	for n := 1; n <= impl.MaxSide; n++ {
		diagonal := must(impl.DiagonalBoard(n))
		hits := must(impl.HitNumbers(diagonal))
		if must(impl.Derangements(n)) != hits[0] || must(impl.Derangements(n)) != must(impl.CountAvoiding(diagonal)) {
			t.Errorf("%d derangements of %d, but the hit numbers %v", must(impl.Derangements(n)), n, hits)
		}
		for k := 0; k <= n; k++ {
			if must(impl.DerangementsWith(n, k)) != hits[k] || must(impl.RookNumbers(diagonal))[k] != chosen(n, k) {
				t.Errorf("%d derangements of %d with %d, but the hit numbers %v", must(impl.DerangementsWith(n, k)), n, k, hits)
			}
		}
		above := must(impl.AboveBoard(n))
		euler := append(append([]int{}, must(impl.EulerNumbers(n))...), 0)
		if !sameList(euler, must(impl.HitNumbers(above))) {
			t.Errorf("Euler's numbers of %d are %v, but the hit numbers %v", n, euler, must(impl.HitNumbers(above)))
		}
		if !sameList(must(impl.RookNumbers(above)), must(impl.StaircaseNumbers(n))) {
			t.Errorf("the board above the diagonal of %d rows is no staircase", n)
		}
		if n == 1 {
			continue
		}
		table := must(impl.TableBoard(n))
		if must(impl.CountCouples(n)) != must(impl.CountAvoiding(table)) || must(impl.CountCouples(n)) != must(impl.HitNumbers(table))[0] {
			t.Errorf("%d ways for %d couples, but the hit numbers %v", must(impl.CountCouples(n)), n, must(impl.HitNumbers(table)))
		}
		if !must(impl.IsPartOf(diagonal, table)) || n > 2 && must(impl.CountCells(table)) != 2*n {
			t.Errorf("the table of %d rows is %v", n, table)
		}
	}
}

// What holds for all n, also for those for which there is no Board.
func TestHitLawsOfKnownNumbers(t *testing.T) {
	for n := 0; n <= impl.MaxDeranged; n++ {
		sum, fixed := 0, 0
		for k := 0; k <= n; k++ {
			with := must(impl.DerangementsWith(n, k))
			sum += with
			fixed += k * with
			if with != chosen(n, k)*must(impl.Derangements(n-k)) {
				t.Errorf("%d derangements of %d with %d", with, n, k)
			}
		}
		// Each number is fixed by the permutations of all others.
		if sum != times(n) || n > 0 && fixed != times(n) {
			t.Errorf("%d permutations of %d with %d fixed numbers together", sum, n, fixed)
		}
	}
	for n := 1; n <= 10; n++ {
		euler := must(impl.EulerNumbers(n))
		if len(euler) != n || together(euler) != times(n) || !sameList(euler, backwards(euler)) {
			t.Errorf("Euler's numbers of %d are %v", n, euler)
		}
		if n == 1 {
			continue
		}
		before := must(impl.EulerNumbers(n - 1))
		for k := 1; k < n-1; k++ {
			if euler[k] != (k+1)*before[k]+(n-k)*before[k-1] {
				t.Errorf("Euler's numbers of %d are %v, and those of %d %v", n, euler, n-1, before)
			}
		}
	}
}
