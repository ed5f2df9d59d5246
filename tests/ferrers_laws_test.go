package tests

import (
	"fmt"
	"testing"

	"loop.example/g01125/impl"
)

// Promise 3: ordered boards have factors, which tell all that are alike.

func TestFerrersLawsOfBoards(t *testing.T) {
	for _, lengths := range allLengthLists() {
		b := must(impl.BoardOfLengths(lengths))
		if !impl.IsBoard(b) || !must(impl.IsOrdered(b)) || !sameList(must(impl.LengthsOf(b)), lengths) {
			t.Errorf("the board of %v is %v", lengths, b)
		}
		if !sameList(must(impl.RowCounts(b)), lengths) {
			t.Errorf("the rows of the board of %v are %v", lengths, must(impl.RowCounts(b)))
		}
		for i, r := range must(impl.OrderOf(b)) {
			if i != r {
				t.Errorf("the board of %v is ordered, but OrderOf changes it", lengths)
			}
		}
		if !sameList(must(impl.NumbersOfLengths(lengths)), must(impl.RookNumbers(b))) {
			t.Errorf("the rook numbers of %v are not those of its board", lengths)
		}
		if must(impl.FullPlacements(lengths)) != must(impl.PermanentOf(b)) {
			t.Errorf("the full placements of %v are not those of its board", lengths)
		}
		for x := -20; x <= 20; x++ {
			if must(impl.ProductAt(lengths, x)) != must(impl.FactorialAt(b, x)) {
				t.Errorf("%v at %d: %d is not the value of the board", lengths, x, must(impl.ProductAt(lengths, x)))
			}
		}
	}
}

// Rows in any order are put in order, and have the same rook numbers in each order.
func TestFerrersLawsOfOrders(t *testing.T) {
	some := orders(6)
	for i, lengths := range lengthLists(6) {
		b := must(impl.BoardOfLengths(lengths))
		mixed := must(impl.OrderRows(b, some[i*197%len(some)]))
		agree(t, fmt.Sprint("rows of ", lengths, " in order"), must(impl.OrderRows(mixed, must(impl.OrderOf(mixed)))), b)
		if !must(impl.AreAlike(mixed, b)) {
			t.Errorf("%v in another order is not alike", lengths)
		}
		if must(impl.IsOrdered(mixed)) != sameBoard(mixed, b) {
			t.Errorf("%v in another order: %v", lengths, must(impl.IsOrdered(mixed)))
		}
	}
	for _, b := range sampleBoards() {
		order, ok := impl.OrderOf(b)
		if is := must(impl.IsOrdered(b)); is && !ok {
			t.Errorf("%v is ordered, but has no order", b)
		}
		if ok && !must(impl.IsOrdered(must(impl.OrderRows(b, order)))) {
			t.Errorf("%v is not ordered by %v", b, order)
		}
	}
}

// Lengths have the same rook numbers exactly if they have the same factors.
func TestFerrersLawsOfFactors(t *testing.T) {
	for n := 1; n <= 6; n++ {
		factorsOf, numbersWith := map[string]string{}, map[string]string{}
		for _, lengths := range lengthLists(n) {
			numbers := fmt.Sprint(must(impl.RookNumbers(must(impl.BoardOfLengths(lengths)))))
			factors := fmt.Sprint(must(impl.FactorsOf(lengths)))
			if known, is := factorsOf[numbers]; is && known != factors {
				t.Errorf("the rook numbers %s have the factors %s and %s", numbers, known, factors)
			}
			if known, is := numbersWith[factors]; is && known != numbers {
				t.Errorf("the factors %s have the rook numbers %s and %s", factors, known, numbers)
			}
			factorsOf[numbers], numbersWith[factors] = factors, numbers
		}
	}
}

func TestFerrersLawsOfClasses(t *testing.T) {
	for n := 1; n <= 6; n++ {
		members := 0
		for _, lengths := range lengthLists(n) {
			class := must(impl.ClassOf(lengths))
			if len(class) != must(impl.CountClass(lengths)) {
				t.Errorf("the class of %v has %d lists", lengths, len(class))
			}
			if !sameList(class[0], must(impl.LengthsFrom(must(impl.FactorsOf(lengths))))) {
				t.Errorf("the first list of the class of %v is %v", lengths, class[0])
			}
			if sameList(class[0], lengths) {
				members += len(class)
				lawsOfClass(t, class)
			}
			lawsOfMember(t, lengths, class)
		}
		if members != len(lengthLists(n)) {
			t.Errorf("the classes of %d numbers have %d lists together", n, members)
		}
	}
}

// lawsOfMember checks that lengths are in their class, as their side is, and that nothing else is.
func lawsOfMember(t *testing.T, lengths []int, class [][]int) {
	t.Helper()
	side := must(impl.SideOfLengths(lengths))
	in, sideIn := false, false
	for _, other := range class {
		in = in || sameList(other, lengths)
		sideIn = sideIn || sameList(other, side)
		if !must(impl.AreAlikeLengths(lengths, other)) {
			t.Errorf("%v is in the class of %v, but not alike", other, lengths)
		}
	}
	if !in || !sideIn {
		t.Errorf("the class of %v is %v", lengths, class)
	}
	if !sameList(must(impl.SideOfLengths(side)), lengths) || !must(impl.AreAlikeLengths(side, lengths)) {
		t.Errorf("the side of %v is %v", lengths, side)
	}
	turned := must(impl.TurnBoard(must(impl.BoardOfLengths(lengths))))
	if !sameList(must(impl.RookNumbers(turned)), must(impl.NumbersOfLengths(side))) {
		t.Errorf("the side of %v has other rook numbers", lengths)
	}
}

// lawsOfClass checks that a class is in order, and that all its lists have the same factors, numbers and strict list.
func lawsOfClass(t *testing.T, class [][]int) {
	t.Helper()
	strict := must(impl.StrictOf(class[0]))
	found := 0
	for i, lengths := range class {
		if i > 0 && !comesBefore(class[i-1], lengths) {
			t.Errorf("the class %v is not in order", class)
		}
		if !sameLists(must(impl.ClassOf(lengths)), class) {
			t.Errorf("the class of %v is not that of %v", lengths, class[0])
		}
		if !sameList(must(impl.StrictOf(lengths)), strict) {
			t.Errorf("the strict list of %v is not that of %v", lengths, class[0])
		}
		if !sameList(must(impl.FactorsOf(lengths)), must(impl.FactorsOf(class[0]))) {
			t.Errorf("the factors of %v are not those of %v", lengths, class[0])
		}
		if sameList(lengths, strict) {
			found++
		}
	}
	// The strict list is in the class exactly if it is lengths.
	if (found == 1) != impl.AreLengths(strict) {
		t.Errorf("the class %v has the strict list %v %d times", class, strict, found)
	}
	if !sameList(lessIndices(strict), must(impl.FactorsOf(class[0]))) {
		t.Errorf("the strict list %v does not have the factors of %v", strict, class[0])
	}
}

func TestFerrersLawsOfStaircases(t *testing.T) {
	for n := 1; n <= 6; n++ {
		lengths := make([]int, n)
		for i := range lengths {
			lengths[i] = i
		}
		numbers := must(impl.StaircaseNumbers(n))
		if !sameList(numbers, must(impl.NumbersOfLengths(lengths))) {
			t.Errorf("the staircase of %d rows has the rook numbers %v", n, numbers)
		}
		if len(cut(must(impl.FactorsOf(lengths)))) != 0 || !sameList(must(impl.StrictOf(lengths)), lengths) {
			t.Errorf("the staircase of %d rows has other factors than 0", n)
		}
	}
}
