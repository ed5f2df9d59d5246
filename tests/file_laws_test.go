package tests

import (
	"fmt"
	"slices"
	"testing"

	"loop.example/g01125/impl"
)

// Promise 7: file numbers make a product, and placements on a staircase are partitions and cycles.

// columnBoards holds for each size boards of all numbers of cells that the columns may have, up to the order of the columns.
func columnBoards() []impl.Board {
	var list []impl.Board
	for rows := 1; rows <= 6; rows++ {
		for columns := 1; columns <= 6; columns++ {
			for _, counts := range risingLists(columns, 0, rows) {
				list = append(list, draw(rows, columns, func(r, c int) bool { return (r+c)%rows < counts[c] }).board())
			}
		}
	}
	return list
}

// The sum of all file numbers times powers is the product, at each x.
func TestFileLawsOfProduct(t *testing.T) {
	for _, b := range append(fileBoards(), columnBoards()...) {
		numbers := must(impl.FileNumbers(b))
		if len(numbers) != b.Columns+1 {
			t.Errorf("%v: the file numbers %v", b, numbers)
			continue
		}
		for x := -100; x <= 100; x++ {
			sum := 0
			for k, number := range numbers {
				sum += number * raised(x, b.Columns-k)
			}
			if got := must(impl.FileValue(b, x)); got != sum {
				t.Errorf("%v: the value at %d is %d, not %d", b, x, got, sum)
			}
		}
	}
}

// The product is 0 just where a column has as many cells as x is less than 0. The first file numbers and the last one
// are known.
func TestFileLawsOfZeros(t *testing.T) {
	for _, b := range append(fileBoards(), columnBoards()...) {
		columns := must(impl.RowCounts(must(impl.TurnBoard(b))))
		for x := -100; x <= 100; x++ {
			zero := must(impl.FileValue(b, x)) == 0
			if zero != slices.Contains(columns, -x) {
				t.Errorf("%v: the value at %d is 0: %v, and the columns have %v cells", b, x, zero, columns)
			}
		}
		numbers := must(impl.FileNumbers(b))
		if numbers[0] != 1 || numbers[1] != must(impl.CountCells(b)) || numbers[b.Columns] != must(impl.FileValue(b, 0)) {
			t.Errorf("%v: the file numbers are %v", b, numbers)
		}
	}
}

// File numbers count the lists that IsFilePlacement finds, by their sizes, on boards of up to 12 cells.
func TestFileLawsOfLists(t *testing.T) {
	for _, b := range lawBoards() {
		if b.Rows*b.Columns > 12 {
			continue
		}
		counts := make([]int, b.Columns+1)
		for _, list := range allLists(b.Columns, -1, b.Rows-1) {
			if must(impl.IsFilePlacement(b, list)) {
				counts[must(impl.CountRooks(list))]++
			}
		}
		if numbers := must(impl.FileNumbers(b)); !sameList(numbers, counts) {
			t.Errorf("%v: the file numbers are %v, and the lists %v", b, numbers, counts)
		}
	}
}

// Neither the rows of the cells nor the order of the columns count, and each rook placement is a file placement.
func TestFileLawsOfColumns(t *testing.T) {
	for _, b := range fileBoards() {
		numbers := must(impl.FileNumbers(b))
		order := make([]int, b.Rows)
		for r := range order {
			order[r] = (r + 1) % b.Rows
		}
		for _, other := range []impl.Board{must(impl.MirrorBoard(b)), must(impl.OrderRows(b, order))} {
			if !sameList(must(impl.FileNumbers(other)), numbers) {
				t.Errorf("%v and %v: the file numbers %v", b, other, numbers)
			}
		}
		for k, rooks := range must(impl.RookNumbers(b)) {
			if rooks > numbers[k] || k < 2 && rooks != numbers[k] {
				t.Errorf("%v: %d placements with %d rooks, and %d of files", b, rooks, k, numbers[k])
			}
		}
		for _, list := range someOf(must(impl.TurnBoard(b))) {
			if !must(impl.IsFilePlacement(b, list)) {
				t.Errorf("%v: %v is no file placement", b, list)
			}
		}
	}
}

func TestFileLawsOfArrowNumbers(t *testing.T) {
	for n := 1; n <= 6; n++ {
		arrow := must(impl.ArrowBoard(n))
		files, rooks := must(impl.FileNumbers(arrow)), must(impl.RookNumbers(arrow))
		if len(files) != n+1 || len(rooks) != n+1 {
			t.Fatalf("the arrow board of %d has the numbers %v and %v", n, files, rooks)
		}
		for k := 0; k <= n; k++ {
			if got := must(impl.StirlingFirst(n, k)); got != files[n-k] {
				t.Errorf("StirlingFirst %d %d is %d, and the file numbers are %v", n, k, got, files)
			}
			if got := must(impl.StirlingSecond(n, k)); got != rooks[n-k] {
				t.Errorf("StirlingSecond %d %d is %d, and the rook numbers are %v", n, k, got, rooks)
			}
		}
		// All permutations are cycles, and the product at 1 counts all of them.
		if got := must(impl.FileValue(arrow, 1)); got != times(n) {
			t.Errorf("the arrow board of %d has %d file placements", n, got)
		}
		expectBoard(t, "AboveBoard", arrow, must(impl.AboveBoard(n)), true)
	}
}

// oneLess is the number for one thing less, 0 where there is none.
func oneLess(call func(n, k int) (int, bool), n, k int) int {
	if k < 0 || k > n-1 {
		return 0
	}
	return must(call(n-1, k))
}

func TestFileLawsOfSums(t *testing.T) {
	for n := 1; n <= 10; n++ {
		for k := 0; k <= n; k++ {
			// The last thing is alone, or in one of the blocks, or behind one of the others.
			second := oneLess(impl.StirlingSecond, n, k-1) + k*oneLess(impl.StirlingSecond, n, k)
			if got := must(impl.StirlingSecond(n, k)); got != second {
				t.Errorf("StirlingSecond %d %d is %d, not %d", n, k, got, second)
			}
			first := oneLess(impl.StirlingFirst, n, k-1) + (n-1)*oneLess(impl.StirlingFirst, n, k)
			if got := must(impl.StirlingFirst(n, k)); got != first {
				t.Errorf("StirlingFirst %d %d is %d, not %d", n, k, got, first)
			}
			lah := oneLess(impl.LahNumber, n, k-1) + (n-1+k)*oneLess(impl.LahNumber, n, k)
			if got := must(impl.LahNumber(n, k)); got != lah {
				t.Errorf("LahNumber %d %d is %d, not %d", n, k, got, lah)
			}
		}
	}
}

func TestFileLawsOfLah(t *testing.T) {
	for n := 0; n <= 10; n++ {
		for k := 0; k <= n; k++ {
			sum := 0
			for j := k; j <= n; j++ {
				sum += must(impl.StirlingFirst(n, j)) * must(impl.StirlingSecond(j, k))
			}
			if got := must(impl.LahNumber(n, k)); got != sum {
				t.Errorf("LahNumber %d %d is %d, not %d", n, k, got, sum)
			}
			// All orders of the numbers, cut in all ways, by the orders of the rows.
			if k > 0 && sum*times(k) != times(n)*chosen(n-1, k-1) || k == 0 && n > 0 && sum != 0 {
				t.Errorf("LahNumber %d %d is %d", n, k, sum)
			}
			if sum < must(impl.StirlingFirst(n, k)) || must(impl.StirlingFirst(n, k)) < must(impl.StirlingSecond(n, k)) {
				t.Errorf("%d and %d: rows are less than cycles, or cycles than partitions", n, k)
			}
		}
	}
}

// With signs that alternate, the numbers of one kind undo those of the other.
func TestFileLawsOfInverse(t *testing.T) {
	for n := 0; n <= 10; n++ {
		for k := 0; k <= n; k++ {
			sum, sign := 0, 1
			for j := n; j >= k; j-- {
				sum += sign * must(impl.StirlingFirst(n, j)) * must(impl.StirlingSecond(j, k))
				sign = -sign
			}
			if n == k && sum != 1 || n != k && sum != 0 {
				t.Errorf("%d and %d: the sum with signs is %d", n, k, sum)
			}
		}
	}
}

func TestFileLawsOfCounts(t *testing.T) {
	for n := 0; n <= 10; n++ {
		partitions, cycles := 0, 0
		for k := 0; k <= n; k++ {
			partitions += must(impl.StirlingSecond(n, k))
			cycles += must(impl.StirlingFirst(n, k))
		}
		if got := must(impl.CountPartitions(n)); got != partitions {
			t.Errorf("CountPartitions %d is %d, not %d", n, got, partitions)
		}
		if cycles != times(n) {
			t.Errorf("%d has %d cycles", n, cycles)
		}
		if n >= 1 && n <= 6 {
			if got := must(impl.RookPolynomialAt(must(impl.ArrowBoard(n)), 1)); got != partitions {
				t.Errorf("the arrow board of %d has %d placements, not %d", n, got, partitions)
			}
		}
		// The block of the last number leaves out some of the others, which have a partition.
		sum := 0
		for left := 0; left < n; left++ {
			sum += chosen(n-1, left) * must(impl.CountPartitions(left))
		}
		if n > 0 && sum != partitions {
			t.Errorf("CountPartitions %d is %d, not %d", n, partitions, sum)
		}
	}
}

// Each placement on the arrow board is a partition, by its size one of as many blocks, and no two are the same one.
func TestFileLawsOfPartitions(t *testing.T) {
	for n := 1; n <= 6; n++ {
		arrow := must(impl.ArrowBoard(n))
		seen := map[string]bool{}
		for size := 0; size < n; size++ {
			lists := must(impl.PlacementsOf(arrow, size))
			if len(lists) != must(impl.StirlingSecond(n, n-size)) {
				t.Errorf("%d placements with %d rooks on the arrow board of %d", len(lists), size, n)
			}
			for _, list := range lists {
				blocks := must(impl.PartitionOf(list))
				if len(blocks) != n-size || !areBlocks(blocks, true) || numbersIn(blocks) != n {
					t.Errorf("%v is the partition %v", list, blocks)
				}
				if back := must(impl.RooksOfPartition(blocks)); !sameList(back, list) {
					t.Errorf("%v is the partition %v, and this one %v", list, blocks, back)
				}
				seen[must(impl.PartitionText(blocks))] = true
			}
		}
		if len(seen) != must(impl.CountPartitions(n)) {
			t.Errorf("%d partitions of %d", len(seen), n)
		}
	}
}

func TestFileLawsOfRooks(t *testing.T) {
	for n := 1; n <= 6; n++ {
		arrow := must(impl.ArrowBoard(n))
		for _, blocks := range partitionsOf(n) {
			list := must(impl.RooksOfPartition(blocks))
			if !must(impl.IsPlacement(arrow, list)) || must(impl.CountRooks(list)) != n-len(blocks) {
				t.Errorf("the partition %v has the placement %v", blocks, list)
			}
			if back := must(impl.PartitionOf(list)); !sameLists(back, blocks) {
				t.Errorf("%v has the placement %v, and this one %v", blocks, list, back)
			}
			// A partition is cycles, too: the placement tells the next number, and the file placement the one before.
			files := must(impl.FilesOfCycles(blocks))
			if turned := must(impl.TurnPlacement(arrow, list)); !sameList(files, turned) {
				t.Errorf("%v has the files %v, and not %v", blocks, files, turned)
			}
		}
	}
}

// Each file placement on the arrow board makes cycles, by its size of as many blocks, and no two make the same ones.
func TestFileLawsOfCycles(t *testing.T) {
	for n := 1; n <= 6; n++ {
		arrow := must(impl.ArrowBoard(n))
		seen := map[string]bool{}
		counts := make([]int, n+1)
		for _, list := range arrowFilings(n) {
			if !must(impl.IsFilePlacement(arrow, list)) {
				t.Errorf("%v is no file placement", list)
			}
			cycles := must(impl.CyclesOfFiles(list))
			if len(cycles) != n-must(impl.CountRooks(list)) || !areBlocks(cycles, false) || numbersIn(cycles) != n {
				t.Errorf("%v makes the cycles %v", list, cycles)
			}
			if back := must(impl.FilesOfCycles(cycles)); !sameList(back, list) {
				t.Errorf("%v makes the cycles %v, and they %v", list, cycles, back)
			}
			seen[fmt.Sprint(cycles)] = true
			counts[len(cycles)]++
		}
		if len(seen) != times(n) {
			t.Errorf("%d cycles of %d", len(seen), n)
		}
		for k, count := range counts {
			if got := must(impl.StirlingFirst(n, k)); got != count {
				t.Errorf("StirlingFirst %d %d is %d, not %d", n, k, got, count)
			}
		}
	}
}

func TestFileLawsOfFiles(t *testing.T) {
	for n := 1; n <= 6; n++ {
		arrow := must(impl.ArrowBoard(n))
		for _, order := range orders(n) {
			cycles := cyclesIn(order)
			list := must(impl.FilesOfCycles(cycles))
			if !must(impl.IsFilePlacement(arrow, list)) || must(impl.CountRooks(list)) != n-len(cycles) {
				t.Errorf("the cycles %v have the file placement %v", cycles, list)
			}
			if back := must(impl.CyclesOfFiles(list)); !sameLists(back, cycles) {
				t.Errorf("%v have the file placement %v, and it makes %v", cycles, list, back)
			}
			// Where the numbers rise, the file placement is one of rooks, and nowhere else.
			if rise := areBlocks(cycles, true); rise != must(impl.IsPlacement(must(impl.TurnBoard(arrow)), list)) {
				t.Errorf("%v rise: %v, and have the file placement %v", cycles, rise, list)
			}
		}
	}
}

func TestFileLawsOfTexts(t *testing.T) {
	for n := 1; n <= 6; n++ {
		for _, blocks := range partitionsOf(n) {
			text := must(impl.PartitionText(blocks))
			if back := must(impl.ParsePartition(text)); !sameLists(back, blocks) {
				t.Errorf("%v has the text %q, and this one %v", blocks, text, back)
			}
			if len(text) != n+len(blocks)-1 || text != must(impl.PartitionText(must(impl.ParsePartition(text)))) {
				t.Errorf("%v has the text %q", blocks, text)
			}
		}
	}
}

func TestFileLawsOfAllPartitions(t *testing.T) {
	for n := 1; n <= 5; n++ {
		seen := map[string]bool{}
		for k := 1; k <= n; k++ {
			all := must(impl.AllPartitions(n, k))
			if len(all) != must(impl.StirlingSecond(n, k)) {
				t.Errorf("%d partitions of %d with %d blocks", len(all), n, k)
			}
			for i, blocks := range all {
				if len(blocks) != k || numbersIn(blocks) != n || !areBlocks(blocks, true) {
					t.Errorf("%v is no partition of %d with %d blocks", blocks, n, k)
					continue
				}
				if i > 0 && !comesBefore(labelsOf(all[i-1]), labelsOf(blocks)) {
					t.Errorf("%v before %v", all[i-1], blocks)
				}
				list := must(impl.RooksOfPartition(blocks))
				if must(impl.CountRooks(list)) != n-k {
					t.Errorf("%v has the placement %v", blocks, list)
				}
				seen[must(impl.PartitionText(blocks))] = true
			}
		}
		if len(seen) != must(impl.CountPartitions(n)) {
			t.Errorf("%d partitions of %d", len(seen), n)
		}
	}
}
