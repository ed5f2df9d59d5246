package tests

import (
	"fmt"
	"slices"
	"strings"
	"testing"

	"loop.example/g01125/impl"
)

// Promise 11 for chapter 10: no call panics, none modifies an argument, and failing calls return zeros.

// lineCall is a call of DeskLine.
func lineCall(p *probe, d impl.Desk, line string) []any {
	return three(impl.DeskLine(p.desk(d), line))
}

// linesOfAllKinds holds lines of each kind, that succeed on some desks, and lines that fail on all.
func linesOfAllKinds() []string {
	return append(plainLines(),
		"board 110/011/101", "board 0", "full 3", "full 7", "put 0 0", "put 0 1", "put 1 1", "put 6 0", "lift 0", "lift 1", "lift 6",
		"couples 4", "couples 1", "sets 4 2", "sets 4 5", "queens 4", "queens 3", "fly", "", "put 0", "board 2", "\n", "show\n",
		strings.Repeat("x", impl.MaxScript), strings.Repeat("x", impl.MaxScript+1),
	)
}

// No line modifies the desk that is given, and the desk behind it has memory of its own.
func TestConsoleTotalMemory(t *testing.T) {
	for _, d := range consoleDesks() {
		checkMemory(t, fmt.Sprint("IsDesk ", d), func(p *probe) []any { return []any{impl.IsDesk(p.desk(d))} })
		for _, line := range linesOfAllKinds() {
			checkMemory(t, fmt.Sprintf("%.20q on %v", line, d), func(p *probe) []any { return lineCall(p, d, line) })
		}
	}
	for i, d := range wrongDesks() {
		checkMemory(t, fmt.Sprint("IsDesk ", d), func(p *probe) []any { return []any{impl.IsDesk(p.desk(d))} })
		for j, line := range linesOfAllKinds() {
			if (i+j)%5 == 0 {
				checkMemory(t, fmt.Sprintf("%.20q on %v", line, d), func(p *probe) []any { return lineCall(p, d, line) })
			}
		}
	}
}

func TestConsoleTotalMemoryOfScripts(t *testing.T) {
	checkMemory(t, "FirstDesk", func(p *probe) []any { return []any{impl.FirstDesk()} })
	scripts := []string{"", "\n", "show", "show\n", "put 0 0\nmore\n", "put 0 0\nturn\nrooks\n", "other\n", "full 6\nmore\nfly\nno\n", strings.Repeat("more\n", 51)}
	for _, lines := range mixedScripts(100) {
		scripts = append(scripts, script(lines))
	}
	for _, s := range scripts {
		checkMemory(t, fmt.Sprintf("RunScript %q", s), func(p *probe) []any { return both(impl.RunScript(s)) })
		checkMemory(t, fmt.Sprintf("DeskAfter %q", s), func(p *probe) []any { return both(impl.DeskAfter(s)) })
		checkMemory(t, fmt.Sprintf("FailedLines %q", s), func(p *probe) []any { return both(impl.FailedLines(s)) })
	}
}

// apart checks that of several desks none shares memory with another one, or with itself: overwriting what one slice
// of a desk reaches leaves all others as they were.
func apart(t *testing.T, what string, desks []impl.Desk) {
	t.Helper()
	var results []any
	for _, d := range desks {
		results = append(results, d)
	}
	lists := slicesOf(results)
	were := copyLists(lists)
	for i, list := range lists {
		scribble(list)
		for j, other := range lists {
			if j > i && !sameList(other, were[j]) {
				t.Errorf("%s: the desk %d shares memory with the desk %d", what, j/2, i/2)
				return
			}
		}
	}
}

// The desks behind the lines of a script, that before the first one, and those of other calls are all apart.
func TestConsoleTotalDesksApart(t *testing.T) {
	apart(t, "FirstDesk", []impl.Desk{impl.FirstDesk(), impl.FirstDesk(), must(impl.DeskAfter("")), must(impl.DeskAfter("")), impl.FirstDesk()})
	for _, d := range consoleDesks() {
		for _, line := range linesOfAllKinds() {
			if len(line) > impl.MaxScript || strings.Contains(line, "\n") {
				continue
			}
			given := deskWith(d.Board, d.Rooks)
			once, again := lineOn(given, line).desk, lineOn(given, line).desk
			further := lineOn(once, line).desk
			apart(t, fmt.Sprintf("%.20q on %v", line, d), []impl.Desk{given, once, again, further})
		}
	}
	for _, lines := range mixedScripts(100) {
		desks := []impl.Desk{impl.FirstDesk()}
		for i, line := range lines {
			desks = append(desks, lineOn(desks[i], line).desk)
		}
		desks = append(desks, must(impl.DeskAfter(script(lines))), must(impl.DeskAfter(script(lines))))
		apart(t, fmt.Sprintf("%q", lines), desks)
	}
}

// What is written into a desk changes no later call.
func TestConsoleTotalWrittenDesks(t *testing.T) {
	for _, d := range []impl.Desk{impl.FirstDesk(), must(impl.DeskAfter("")), must(impl.DeskAfter("put 0 0\n"))} {
		scribble(d.Board.Cells)
		scribble(d.Rooks)
		if first := firstTable().desk(); !sameDesk(impl.FirstDesk(), first) || !sameDesk(must(impl.DeskAfter("")), first) {
			t.Error("the first desk is", impl.FirstDesk(), must(impl.DeskAfter("")))
		}
		if replies := must(impl.RunScript("show\nrooks\n")); !slices.Equal(replies, []string{"110/011/101", "-,-,-"}) {
			t.Errorf("the first desk shows %q", replies)
		}
	}
}

// Cells and Rooks of a desk may lie in one list.
func TestConsoleTotalOneMemory(t *testing.T) {
	whole := []int{3, 6, 5, 1, -1, -1, 0}
	were := append([]int{}, whole...)
	d := impl.Desk{Board: impl.Board{Rows: 3, Columns: 3, Cells: whole[:3]}, Rooks: whole[3:6]}
	if !impl.IsDesk(d) {
		t.Error("no desk:", d)
	}
	for _, line := range append(linesOfAllKinds(), "put 2 2", "put 2 0") {
		if len(line) <= impl.MaxScript && !strings.Contains(line, "\n") {
			expectTold(t, d, line)
		} else {
			fails(t, "DeskLine, one list", lineCall(&probe{}, d, line)...)
		}
		if !sameList(whole, were) {
			t.Fatalf("the list is %v behind %q", whole, line)
		}
	}
	// A row with a cell in the column c has a number in Cells greater than c, so that Cells are never Rooks.
	twice := impl.Desk{Board: impl.Board{Rows: 3, Columns: 3, Cells: whole[:3]}, Rooks: whole[:3]}
	if impl.IsDesk(twice) {
		t.Error("a desk:", twice)
	}
	fails(t, "DeskLine, Cells as Rooks", lineCall(&probe{}, twice, "show")...)
}

func TestConsoleTotalStrangeNumbers(t *testing.T) {
	boards := append(append(largeBoards(), wrongBoards()...), of("11/01"), of("110/011/101"))
	for _, b := range boards {
		for _, x := range strangeNumbers() {
			for _, y := range append(strangeNumbers(), 2, 3, 4) {
				calm(t, fmt.Sprint(b, " with ", x, y), func() { strangeDesks(t, b, x, y) })
			}
		}
	}
}

// strangeDesks makes desks with two numbers, and calls for them.
func strangeDesks(t *testing.T, b impl.Board, x, y int) {
	t.Helper()
	strange := impl.Board{Rows: x, Columns: y, Cells: b.Cells}
	for _, d := range []impl.Desk{
		{Board: b, Rooks: []int{x}}, {Board: b, Rooks: []int{x, y}}, {Board: b, Rooks: []int{x, -1, y}}, {Board: b, Rooks: []int{x, -1, y, -1, -1, -1}},
		{Board: strange, Rooks: noRooks(len(b.Cells))}, {Board: strange}, {Board: impl.Board{Rows: b.Rows, Columns: b.Columns, Cells: []int{x, y}}, Rooks: []int{-1, -1}},
	} {
		is := isTable(d)
		if got := impl.IsDesk(d); got != is {
			t.Errorf("IsDesk %v: %v", d, got)
		}
		for _, line := range []string{"rooks", "turn", "put 0 0", "lift 0", "more", "fly"} {
			if is {
				expectTold(t, d, line)
			} else {
				fails(t, fmt.Sprintf("%q on %v", line, d), lineCall(&probe{}, d, line)...)
			}
		}
	}
}

// Lines and scripts with any byte at any place.
func TestConsoleTotalStrangeTexts(t *testing.T) {
	d := deskWith(of("1100/0110/0011/1001"), []int{0, -1, 2, -1})
	for number := range 256 {
		letter := string([]byte{byte(number)})
		for _, text := range []string{
			"", "show", "rooks", "turn", "put 1 1", "lift 0", "full 3", "sets 4 2", "couples 3", "queens 4", "board 10/01", "more", "what", "0", "-1",
		} {
			for at := 0; at <= len(text); at++ {
				for _, line := range []string{text[:at] + letter + text[at:], text[:at] + letter + text[min(at+1, len(text)):], text[:at] + letter} {
					calm(t, fmt.Sprintf("%q", line), func() { strangeText(t, d, line) })
				}
			}
		}
		for _, line := range []string{strings.Repeat(letter, 7), strings.Repeat(letter, 2999), strings.Repeat(letter, 3000), strings.Repeat(letter, 5000), strings.Repeat("show"+letter, 300)} {
			calm(t, fmt.Sprintf("%.20q", line), func() { strangeText(t, d, line) })
		}
	}
}

// strangeText takes a text as a line, as a script, and as a line of a script.
func strangeText(t *testing.T, d impl.Desk, text string) {
	t.Helper()
	if len(text) > 3000 || slices.Contains([]byte(text), '\n') {
		fails(t, fmt.Sprintf("DeskLine %.20q", text), lineCall(&probe{}, d, text)...)
	} else {
		expectTold(t, d, text)
	}
	for _, s := range []string{text, text + "\n", "put 0 0\n" + text + "\nrooks\n"} {
		lines := cutAt(s, '\n')
		last := len(lines) - 1
		if len(s) > 3000 || last > 50 || lines[last] != "" {
			failScript(t, s)
		} else {
			expectScript(t, lines[:last])
		}
	}
}

// Texts and lists far over any limit end in a failure.
func TestConsoleTotalLong(t *testing.T) {
	first := impl.FirstDesk()
	long := make([]int, 100000)
	for i := range long {
		long[i] = -1
	}
	for _, d := range []impl.Desk{{Board: first.Board, Rooks: long}, {Board: impl.Board{Rows: 100000, Columns: 3, Cells: make([]int, 100000)}, Rooks: long}} {
		if impl.IsDesk(d) {
			t.Error("a desk with a long list")
		}
		fails(t, "DeskLine, a long list", lineCall(&probe{}, d, "show")...)
	}
	for _, text := range []string{strings.Repeat("1", 1<<20), strings.Repeat(" ", 1<<20), strings.Repeat("show\n", 1<<18), strings.Repeat("\n", 1<<20), "put 0 " + strings.Repeat("0", 1<<20)} {
		fails(t, "DeskLine, a long text", lineCall(&probe{}, first, text)...)
		failScript(t, text)
		failScript(t, text+"\n")
	}
}
