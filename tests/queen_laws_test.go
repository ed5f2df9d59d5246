package tests

import (
	"fmt"
	"slices"
	"testing"

	"loop.example/g01125/impl"
)

// Promise 9: queens are listed, counted up to turns and mirrors, and on tori for the right numbers of rows alone.

// lawLineups lists all lists for n up to 7, and for 8 a part of all and all that are queens.
func lawLineups() [][]int {
	var lists [][]int
	for n := 1; n <= 8; n++ {
		for i, list := range lineups(n) {
			if n < 8 || i%5 == 0 || len(attackingRows(list)) == 0 {
				lists = append(lists, list)
			}
		}
	}
	return lists
}

// All queens are listed in order, without doubles, and are just the lists that AreQueens reports.
func TestQueenLawsOfLists(t *testing.T) {
	for n := 1; n <= 8; n++ {
		all := must(impl.AllQueens(n))
		if count := must(impl.CountQueens(n)); count != len(all) {
			t.Errorf("%d queens on %d rows, and %d are counted", len(all), n, count)
		}
		listed := map[string]bool{}
		for i, queens := range all {
			if i > 0 && !comesBefore(all[i-1], queens) {
				t.Errorf("%v is listed behind %v", queens, all[i-1])
			}
			if len(queens) != n || !must(impl.AreQueens(queens)) {
				t.Errorf("%v are listed as queens on %d rows", queens, n)
			}
			listed[fmt.Sprint(queens)] = true
		}
		for _, list := range lineups(n) {
			if is := must(impl.AreQueens(list)); is != listed[fmt.Sprint(list)] {
				t.Errorf("AreQueens %v: %v, and listed: %v", list, is, !is)
			}
		}
		first, ok := impl.FirstQueens(n)
		if ok != (len(all) > 0) || ok && !sameList(first, all[0]) {
			t.Errorf("FirstQueens %d: %v %v, and %v are listed", n, first, ok, all)
		}
	}
}

// No rows attack each other just in the lists that AreQueens reports, and pairs come in order.
func TestQueenLawsOfAttacks(t *testing.T) {
	for n := 1; n <= 8; n++ {
		for _, list := range lineups(n) {
			pairs := must(impl.AttacksOf(list))
			if (len(pairs) == 0) != must(impl.AreQueens(list)) {
				t.Errorf("%v: the attacks %v, and AreQueens", list, pairs)
			}
			for i, pair := range pairs {
				if len(pair) != 2 || pair[0] >= pair[1] || i > 0 && !comesBefore(pairs[i-1], pair) {
					t.Errorf("%v: the attacks %v", list, pairs)
				}
			}
		}
	}
}

// goingOnLaw checks CountGoingOn of a beginning and of all that begin with it, and returns how many these are.
func goingOnLaw(t *testing.T, n int, beginning []int) int {
	t.Helper()
	count := must(impl.CountGoingOn(n, beginning))
	if len(beginning) == n {
		want := 0
		if must(impl.AreQueens(beginning)) {
			want = 1
		}
		if count != want {
			t.Errorf("%d queens are %v", count, beginning)
		}
		return 1
	}
	sum, lists := 0, 1
	for x := range n {
		if !slices.Contains(beginning, x) {
			longer := append(slices.Clone(beginning), x)
			sum += must(impl.CountGoingOn(n, longer))
			lists += goingOnLaw(t, n, longer)
		}
	}
	if count != sum {
		t.Errorf("%d queens on %d rows begin with %v, and %d with this and one more number", count, n, beginning, sum)
	}
	return lists
}

// CountGoingOn adds up over the numbers that go on with a list, from no numbers to all of them.
func TestQueenLawsOfGoingOn(t *testing.T) {
	known := []int{2, 5, 16, 65, 326, 1957, 13700, 109601}
	for n := 1; n <= 8; n++ {
		if must(impl.CountGoingOn(n, nil)) != must(impl.CountQueens(n)) {
			t.Error("CountGoingOn of no numbers on", n, "rows")
		}
		if lists := goingOnLaw(t, n, nil); lists != known[n-1] {
			t.Errorf("%d lists of different numbers for %d rows", lists, n)
		}
	}
}

// turnedTimes turns a list as often as told.
func turnedTimes(list []int, times int) []int {
	for range times {
		list = must(impl.TurnQueens(list))
	}
	return list
}

// Four turns lead back, and two mirrors do. A turn between two mirrors is a turn the other way.
func TestQueenLawsOfTurns(t *testing.T) {
	for _, list := range lawLineups() {
		mirrored := must(impl.MirrorQueens(list))
		if !sameList(turnedTimes(list, 4), list) || !sameList(must(impl.MirrorQueens(mirrored)), list) {
			t.Errorf("%v: four turns are %v, and two mirrors %v", list, turnedTimes(list, 4), must(impl.MirrorQueens(mirrored)))
		}
		if other := must(impl.MirrorQueens(turnedTimes(mirrored, 1))); !sameList(other, turnedTimes(list, 3)) {
			t.Errorf("%v: mirrored, turned and mirrored it is %v", list, other)
		}
		// Two turns exchange the ends of the rows and their order.
		if other := backwards(must(impl.MirrorQueens(list))); !sameList(other, turnedTimes(list, 2)) {
			t.Errorf("%v: two turns are %v", list, turnedTimes(list, 2))
		}
		attacks, is, torus := len(must(impl.AttacksOf(list))), must(impl.AreQueens(list)), must(impl.AreOnTorus(list))
		for _, other := range [][]int{mirrored, turnedTimes(list, 1)} {
			if len(must(impl.AttacksOf(other))) != attacks || must(impl.AreQueens(other)) != is || must(impl.AreOnTorus(other)) != torus {
				t.Errorf("%v and %v have not as many attacks", list, other)
			}
		}
	}
}

// eightCalled lists what the program's turns and mirrors make of a list.
func eightCalled(list []int) [][]int {
	var lists [][]int
	for range 4 {
		list = must(impl.TurnQueens(list))
		lists = append(lists, list, must(impl.MirrorQueens(list)))
	}
	return lists
}

// LeastQueens is the same for all eight lists that turns and mirrors make, is one of them, and no one comes before it.
func TestQueenLawsOfLeasts(t *testing.T) {
	for _, list := range lawLineups() {
		least := must(impl.LeastQueens(list))
		found := false
		for _, other := range eightCalled(list) {
			found = found || sameList(other, least)
			if comesBefore(other, least) || !sameList(must(impl.LeastQueens(other)), least) {
				t.Errorf("%v: the least one is %v, and that of %v is %v", list, least, other, must(impl.LeastQueens(other)))
			}
		}
		if !found {
			t.Errorf("%v: the least one is %v, which is none of %v", list, least, eightCalled(list))
		}
	}
}

// CountDifferent agrees with a count of the LeastQueens of AllQueens, and what turns and mirrors make of these are AllQueens.
func TestQueenLawsOfDifferent(t *testing.T) {
	for n := 1; n <= 8; n++ {
		all := must(impl.AllQueens(n))
		leasts, made := map[string]bool{}, map[string]bool{}
		for _, queens := range all {
			least := must(impl.LeastQueens(queens))
			leasts[fmt.Sprint(least)] = true
			if !must(impl.AreQueens(least)) {
				t.Errorf("%v are no queens, and are the least ones of %v", least, queens)
			}
			for _, other := range eightCalled(least) {
				made[fmt.Sprint(other)] = true
			}
		}
		if count := must(impl.CountDifferent(n)); count != len(leasts) {
			t.Errorf("CountDifferent %d is %d, and there are %d least ones", n, count, len(leasts))
		}
		if len(made) != len(all) {
			t.Errorf("turns and mirrors make %d queens on %d rows, and there are %d", len(made), n, len(all))
		}
	}
}

// Lists are on a torus just if all that shifts make of them are.
func TestQueenLawsOfShifts(t *testing.T) {
	for i, list := range lawLineups() {
		n := len(list)
		torus := must(impl.AreOnTorus(list))
		shifts := []int{-100, -3, 0, 1, 99}
		if torus {
			shifts = []int{-100, -99, -17, -8, -7, -5, -3, -1, 0, 1, 2, 3, 4, 5, 6, 7, 8, 50, 99, 100}
		} else if n > 6 && i%9 != 0 {
			continue
		}
		for _, rows := range shifts {
			for _, columns := range shifts {
				other := must(impl.ShiftQueens(list, rows, columns))
				if !isLineup(other) || must(impl.AreOnTorus(other)) != torus {
					t.Errorf("%v on a torus: %v, and %v behind %d %d", list, torus, other, rows, columns)
				}
				if back := must(impl.ShiftQueens(other, -rows, -columns)); !sameList(back, list) {
					t.Errorf("%v: shifted by %d %d and back it is %v", list, rows, columns, back)
				}
				// Shifts add up, and rows and columns are shifted one by one, too.
				one := must(impl.ShiftQueens(must(impl.ShiftQueens(list, rows, 0)), 0, columns))
				two := must(impl.ShiftQueens(list, rows%n, columns%n))
				if !sameList(one, other) || !sameList(two, other) {
					t.Errorf("%v: shifted by %d %d it is %v, %v and %v", list, rows, columns, other, one, two)
				}
			}
		}
		for _, by := range []int{-n, 0, n, 2 * n} {
			if same := must(impl.ShiftQueens(list, by, -by)); !sameList(same, list) {
				t.Errorf("%v: shifted by %d it is %v", list, by, same)
			}
		}
	}
}

// CountOnTorus agrees with a count by trying, and is above 0 exactly if neither 2 nor 3 divides n. What is on a torus
// are queens on the board, too.
func TestQueenLawsOfTori(t *testing.T) {
	for n := 1; n <= 8; n++ {
		count := 0
		for _, list := range lineups(n) {
			if !must(impl.AreOnTorus(list)) {
				continue
			}
			count++
			if !must(impl.AreQueens(list)) {
				t.Errorf("%v are on a torus, and no queens", list)
			}
		}
		if got := must(impl.CountOnTorus(n)); got != count || (got > 0) != (n%2 != 0 && n%3 != 0) {
			t.Errorf("CountOnTorus %d is %d, and by trying %d", n, got, count)
		}
	}
}

// Queens are on a torus just if they are on the board wherever they are shifted.
func TestQueenLawsOfToriByShifts(t *testing.T) {
	for n := 1; n <= 8; n++ {
		for _, list := range must(impl.AllQueens(n)) {
			always := true
			for rows := range n {
				for columns := range n {
					always = always && must(impl.AreQueens(must(impl.ShiftQueens(list, rows, columns))))
				}
			}
			if got := must(impl.AreOnTorus(list)); got != always {
				t.Errorf("AreOnTorus %v: %v, and shifted they are queens: %v", list, got, always)
			}
		}
	}
}

// common is the greatest number that divides both.
func common(a, b int) int {
	for b != 0 {
		a, b = b, a%b
	}
	return a
}

// StraightQueens fails just for steps that do not give each number once: those that have a divisor with n in common.
// They are on a torus just if the steps of both diagonals have none, either.
func TestQueenLawsOfStraight(t *testing.T) {
	for n := 2; n <= 8; n++ {
		for step := 1; step < n; step++ {
			seen := map[int]bool{}
			for r := range n {
				seen[step*r%n] = true
			}
			list, ok := impl.StraightQueens(n, step)
			if ok != (len(seen) == n) || ok != (common(step, n) == 1) {
				t.Errorf("StraightQueens %d %d: %v, and %d numbers", n, step, ok, len(seen))
			}
			if !ok {
				continue
			}
			for r, c := range list {
				if c != step*r%n {
					t.Errorf("StraightQueens %d %d: %v", n, step, list)
				}
			}
			torus := common(step+1, n) == 1 && common(step-1, n) == 1
			if got := must(impl.AreOnTorus(list)); got != torus {
				t.Errorf("StraightQueens %d %d are on a torus: %v", n, step, got)
			}
			// The other way round, they are mirrored and shifted.
			other := must(impl.ShiftQueens(must(impl.MirrorQueens(list)), 0, 1))
			if !sameList(other, must(impl.StraightQueens(n, n-step))) {
				t.Errorf("StraightQueens %d %d are %v, and mirrored and shifted %v", n, step, list, other)
			}
		}
	}
	if list := must(impl.StraightQueens(1, 0)); !sameList(list, []int{0}) {
		t.Error("StraightQueens 1 0:", list)
	}
}

// LeastWatch is watching, in order, the first of its length, and no list with fewer places is watching.
func TestQueenLawsOfWatches(t *testing.T) {
	for n := 1; n <= 6; n++ {
		watch := must(impl.LeastWatch(n))
		if !must(impl.AreWatching(n, watch)) || !cellsInOrder(watch) {
			t.Errorf("LeastWatch %d: %v", n, watch)
		}
		for count := range len(watch) + 1 {
			placeLists(n, count, func(places [][]int) {
				if is := must(impl.AreWatching(n, places)); is && (count < len(watch) || placesBefore(places, watch)) {
					t.Errorf("LeastWatch %d: %v, but %v are watching", n, watch, places)
				}
			})
		}
	}
}

// placesBefore tells the lexicographic order of lists of as many places.
func placesBefore(a, b [][]int) bool {
	return comesBefore(slices.Concat(a...), slices.Concat(b...))
}

// Which places are watching does not change in another order, with one twice, turned or mirrored, and one more place
// takes nothing away.
func TestQueenLawsOfPlaces(t *testing.T) {
	for n := 1; n <= 8; n++ {
		for count := range min(n, 5) + 1 {
			number := 0
			placeLists(n, count, func(places [][]int) {
				number++
				if number%(1+(1<<n)*count*count/5) != 0 {
					return
				}
				placesLaw(t, n, places)
			})
		}
		for _, watch := range watchesOf(n) {
			placesLaw(t, n, watch)
		}
	}
}

// placesLaw checks this for some places.
func placesLaw(t *testing.T, n int, places [][]int) {
	t.Helper()
	want := must(impl.AreWatching(n, places))
	var turned, mirrored [][]int
	for _, place := range places {
		turned = append(turned, []int{place[1], n - 1 - place[0]})
		mirrored = append(mirrored, []int{place[0], n - 1 - place[1]})
	}
	lists := [][][]int{turned, mirrored}
	for i := range places {
		lists = append(lists, slices.Concat(places[i:], places[:i]))
		if len(places) < n {
			lists = append(lists, slices.Insert(slices.Clone(places), i, places[len(places)-1]))
		}
	}
	for _, other := range lists {
		if got := must(impl.AreWatching(n, other)); got != want {
			t.Errorf("AreWatching %d: %v is %v, and %v is %v", n, places, want, other, got)
		}
	}
	for i := range places {
		if fewer := must(impl.AreWatching(n, slices.Delete(slices.Clone(places), i, i+1))); fewer && !want {
			t.Errorf("AreWatching %d: %v is %v, and without the place %d it is true", n, places, want, i)
		}
	}
}

// A queen in each row is watching, whatever list tells them.
func TestQueenLawsOfLineupsWatching(t *testing.T) {
	for _, list := range lawLineups() {
		var places [][]int
		for r, c := range list {
			places = append(places, []int{r, c})
		}
		if !must(impl.AreWatching(len(list), places)) {
			t.Errorf("%v is not watching", list)
		}
	}
}

// Up to six rows, queens are what chapter 8 counts on full boards, and attacks are pairs on boards with the queens alone.
func TestQueenLawsOfBoards(t *testing.T) {
	for n := 1; n <= 6; n++ {
		if both, count := must(impl.CountBoth(must(impl.FullBoard(n, n)), n)), must(impl.CountQueens(n)); both != count {
			t.Errorf("%d queens on %d rows, and %d pieces that are quiet as both", count, n, both)
		}
		for _, list := range lineups(n) {
			var cells [][]int
			for r, c := range list {
				cells = append(cells, []int{r, c})
			}
			b := must(impl.FromCells(n, n, cells))
			if pairs := must(impl.QueenPairs(b)); pairs != len(must(impl.AttacksOf(list))) {
				t.Errorf("%v: %d pairs of queens, and the attacks %v", list, pairs, must(impl.AttacksOf(list)))
			}
		}
	}
}
