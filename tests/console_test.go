package tests

import (
	"fmt"
	"slices"
	"strings"
	"testing"

	"loop.example/g01125/impl"
)

// Promise 10, function by function: each reply and each desk is held against the tests' own model of the console,
// or against what is written here by hand.

// expectLine checks a line on a desk.
func expectLine(t *testing.T, d impl.Desk, line string, want impl.Desk, reply string) {
	t.Helper()
	behind, got, ok := impl.DeskLine(d, line)
	if !ok || got != reply || !sameDesk(behind, want) {
		t.Errorf("%q on %v: %v %q %v instead of %v %q", line, d, behind, got, ok, want, reply)
	}
}

// expectTold checks a line on a desk against the model.
func expectTold(t *testing.T, d impl.Desk, line string) string {
	t.Helper()
	next, reply := table{pictureOf(d.Board), d.Rooks}.done(line)
	expectLine(t, d, line, next.desk(), reply)
	return reply
}

func TestConsoleExample(t *testing.T) {
	lines := []string{"put 0 1", "put 1 1", "more", "numbers", "hits", "fly"}
	replies, ok := impl.RunScript(script(lines))
	if want := []string{"ok", "no", "1,2,-", "1,6,9,2", "1,0,3,2", "what"}; !ok || !slices.Equal(replies, want) {
		t.Errorf("the replies %q %v instead of %q", replies, ok, want)
	}
	behind, ok := impl.DeskAfter(script(lines))
	if want := deskWith(of("110/011/101"), []int{1, 2, -1}); !ok || !sameDesk(behind, want) {
		t.Error("the desk behind:", behind, ok)
	}
	failed, ok := impl.FailedLines(script(lines))
	if !ok || !sameList(failed, []int{2, 6}) {
		t.Error("the lines that failed:", failed, ok)
	}
}

func TestConsoleConstants(t *testing.T) {
	if impl.MaxScript != 3000 || impl.MaxLines != 50 {
		t.Error(impl.MaxScript, impl.MaxLines)
	}
}

func TestConsoleFirstDesk(t *testing.T) {
	want := impl.Desk{Board: impl.Board{Rows: 3, Columns: 3, Cells: []int{3, 6, 5}}, Rooks: []int{-1, -1, -1}}
	if d := impl.FirstDesk(); !sameDesk(d, want) || !impl.IsDesk(d) {
		t.Error(d)
	}
}

func TestConsoleIsDesk(t *testing.T) {
	for _, b := range append(sampleBoards(), edgeBoards()...) {
		least, most := -1, b.Columns-1
		if b.Rows <= 3 {
			least, most = -2, b.Columns
		}
		lists := [][]int{}
		if b.Rows <= 4 {
			lists = allLists(b.Rows, least, most)
		}
		for _, list := range slices.Concat(lists, rooksOn(b), wrongPlacings(b)) {
			d := impl.Desk{Board: b, Rooks: list}
			if got := impl.IsDesk(d); got != isPlacing(pictureOf(b), list) {
				t.Errorf("IsDesk %v: %v", d, got)
			}
		}
	}
	for _, d := range wrongDesks() {
		if impl.IsDesk(d) {
			t.Errorf("%v is a desk", d)
		}
	}
}

// tableCase is a line on a desk, its reply, and the desk behind it; "" as a text behind stands for the same desk.
type tableCase struct {
	text   string
	rooks  []int
	line   string
	reply  string
	behind string
	next   []int
}

// changeCases holds lines with effects, written by hand.
func changeCases() []tableCase {
	first, wide, narrow := "110/011/101", "110/011", "110/100/100"
	six := "111111/111111/111111/111111/111111/111111"
	return []tableCase{
		{first, []int{0, 1, 2}, "board 01/10/11", "ok", "01/10/11", []int{-1, -1, -1}},
		{first, []int{0, 1, 2}, "board 110/011/101", "ok", first, []int{-1, -1, -1}},
		{first, []int{0, -1, 2}, "board 0", "ok", "0", []int{-1}},
		{"0", []int{-1}, "board 1", "ok", "1", []int{-1}},
		{"1", []int{0}, "board 00/00", "ok", "00/00", []int{-1, -1}},
		{"1", []int{0}, "board " + six, "ok", six, []int{-1, -1, -1, -1, -1, -1}},
		{wide, []int{1, 2}, "board 111111", "ok", "111111", []int{-1}},
		{wide, []int{1, 2}, "board 1/1/0/1/1/1", "ok", "1/1/0/1/1/1", []int{-1, -1, -1, -1, -1, -1}},
		{first, []int{0, 1, 2}, "board 1111111", "what", "", nil},
		{first, []int{0, 1, 2}, "board 1/1/1/1/1/1/1", "what", "", nil},
		{wide, []int{1, -1}, "full 1", "ok", "1", []int{-1}},
		{wide, []int{1, -1}, "full 2", "ok", "11/11", []int{-1, -1}},
		{"1", []int{0}, "full 6", "ok", six, []int{-1, -1, -1, -1, -1, -1}},
		{"1", []int{0}, "full 1", "ok", "1", []int{-1}},
		{wide, []int{1, -1}, "full 0", "no", "", nil},
		{wide, []int{1, -1}, "full 7", "no", "", nil},
		{wide, []int{1, -1}, "full 999999", "no", "", nil},
		{wide, []int{1, -1}, "full 1000000", "what", "", nil},
		{first, []int{0, 1, 2}, "other", "001/100/010", "001/100/010", []int{-1, -1, -1}},
		{wide, []int{1, -1}, "other", "001/100", "001/100", []int{-1, -1}},
		{"1", []int{0}, "other", "0", "0", []int{-1}},
		{"0", []int{-1}, "other", "1", "1", []int{-1}},
		{wide, []int{1, 2}, "turn", "10/11/01", "10/11/01", []int{-1, 0, 1}},
		{"10/11/01", []int{-1, 0, 1}, "turn", wide, wide, []int{1, 2}},
		{wide, []int{-1, -1}, "turn", "10/11/01", "10/11/01", []int{-1, -1, -1}},
		{first, []int{1, 2, 0}, "turn", "101/110/011", "101/110/011", []int{2, 0, 1}},
		{"1", []int{0}, "turn", "1", "1", []int{0}},
		{"000001", []int{5}, "turn", "0/0/0/0/0/1", "0/0/0/0/0/1", []int{-1, -1, -1, -1, -1, 0}},
		{first, []int{-1, -1, -1}, "put 0 0", "ok", first, []int{0, -1, -1}},
		{first, []int{1, 2, -1}, "put 2 0", "ok", first, []int{1, 2, 0}},
		{first, []int{1, -1, -1}, "put 0 0", "no", "", nil},
		{first, []int{1, -1, -1}, "put 0 1", "no", "", nil},
		{first, []int{1, -1, -1}, "put 1 1", "no", "", nil},
		{first, []int{1, -1, -1}, "put 1 0", "no", "", nil},
		{first, []int{-1, -1, -1}, "put 0 2", "no", "", nil},
		{first, []int{-1, -1, -1}, "put 0 3", "no", "", nil},
		{first, []int{-1, -1, -1}, "put 0 64", "no", "", nil},
		{first, []int{-1, -1, -1}, "put 3 0", "no", "", nil},
		{first, []int{-1, -1, -1}, "put 999999 999999", "no", "", nil},
		{first, []int{-1, -1, -1}, "put 1000000 0", "what", "", nil},
		{first, []int{-1, -1, -1}, "put 0 -1", "what", "", nil},
		{first, []int{1, 2, 0}, "lift 1", "ok", first, []int{1, -1, 0}},
		{"1", []int{0}, "lift 0", "ok", "1", []int{-1}},
		{first, []int{1, -1, 0}, "lift 1", "no", "", nil},
		{first, []int{1, 2, 0}, "lift 3", "no", "", nil},
		{first, []int{1, 2, 0}, "lift 999999", "no", "", nil},
		{first, []int{1, 2, 0}, "lift 1000000", "what", "", nil},
		{first, []int{-1, -1, -1}, "more", "0,-,-", first, []int{0, -1, -1}},
		{first, []int{1, -1, -1}, "more", "1,2,-", first, []int{1, 2, -1}},
		{narrow, []int{0, -1, -1}, "more", "1,0,-", narrow, []int{1, 0, -1}},
		{narrow, []int{1, 0, -1}, "more", "no", "", nil},
		{first, []int{0, 1, 2}, "more", "no", "", nil},
		{"0", []int{-1}, "more", "no", "", nil},
		{"1", []int{-1}, "more", "0", "1", []int{0}},
	}
}

// questionCases holds lines that only ask, written by hand.
func questionCases() []tableCase {
	first, wide, narrow := "110/011/101", "110/011", "110/100/100"
	var list []tableCase
	add := func(text string, rooks []int, lines ...string) {
		for i := 0; i < len(lines); i += 2 {
			list = append(list, tableCase{text: text, rooks: rooks, line: lines[i], reply: lines[i+1]})
		}
	}
	add(first, []int{1, -1, 0}, "show", first, "rooks", "1,-,0", "numbers", "1,6,9,2", "hits", "1,0,3,2", "lack", "0", "refuse", "no", "files", "1,6,12,8")
	add(wide, []int{-1, -1}, "show", wide, "rooks", "-,-", "numbers", "1,4,3", "hits", "no", "lack", "0", "refuse", "no", "files", "1,4,5,2")
	add(narrow, []int{0, -1, -1}, "show", narrow, "rooks", "0,-,-", "numbers", "1,4,2,0", "hits", "0,4,2,0", "lack", "1", "refuse", "1,2", "files", "1,4,3,0")
	add("1", []int{0}, "show", "1", "rooks", "0", "numbers", "1,1", "hits", "0,1", "lack", "0", "refuse", "no", "files", "1,1")
	add("0", []int{-1}, "show", "0", "rooks", "-", "numbers", "1,0", "hits", "1,0", "lack", "1", "refuse", "0", "files", "1,0")
	add("0/0/0/0/0/0", []int{-1, -1, -1, -1, -1, -1}, "rooks", "-,-,-,-,-,-", "numbers", "1,0", "hits", "no", "lack", "6", "refuse", "0", "files", "1,0")
	add("000000", []int{-1}, "rooks", "-", "numbers", "1,0", "hits", "no", "lack", "1", "refuse", "0", "files", "1,0,0,0,0,0,0")
	add("111/111/111", []int{2, 1, 0}, "rooks", "2,1,0", "numbers", "1,9,18,6", "hits", "0,0,0,6", "lack", "0", "refuse", "no", "files", "1,9,27,27")
	add("11/01", []int{0, 1}, "couples 2", "0", "couples 3", "1", "couples 4", "2", "couples 5", "13", "couples 10", "439792",
		"couples 0", "no", "couples 1", "no", "couples 11", "no", "couples 999999", "no", "couples 1000000", "what",
		"sets 4 2", "7", "sets 0 0", "1", "sets 4 0", "0", "sets 10 5", "42525", "sets 10 10", "1", "sets 4 5", "no", "sets 11 1", "no",
		"sets 999999 999999", "no", "sets 999999 1000000", "what", "sets 1000000 1", "what",
		"queens 1", "0", "queens 2", "no", "queens 3", "no", "queens 4", "1,3,0,2", "queens 5", "0,2,4,1,3", "queens 8", "0,4,7,5,2,6,1,3",
		"queens 0", "no", "queens 9", "no", "queens 999999", "no", "queens 1000000", "what")
	return list
}

func TestConsoleTable(t *testing.T) {
	for _, c := range append(changeCases(), questionCases()...) {
		d := deskWith(of(c.text), c.rooks)
		want := d
		if c.behind != "" {
			want = deskWith(of(c.behind), c.next)
		}
		expectLine(t, d, c.line, want, c.reply)
	}
}

// Each line on each desk, as the model does it.
func TestConsoleLines(t *testing.T) {
	seen := map[string]int{}
	for _, d := range consoleDesks() {
		lines := slices.Concat(plainLines(), rookLines(d.Board))
		for _, line := range lines {
			reply := expectTold(t, d, line)
			if reply != "ok" && reply != "no" {
				reply = "a result"
			}
			seen[cutAt(line, ' ')[0]+" "+reply]++
		}
	}
	// What the document lets come about has come about.
	for _, kind := range []string{
		"other a result", "turn a result", "more a result", "more no", "show a result", "rooks a result", "numbers a result", "hits a result",
		"hits no", "lack a result", "refuse a result", "refuse no", "files a result", "put ok", "put no", "lift ok", "lift no",
	} {
		if seen[kind] == 0 {
			t.Errorf("no line had the reply %s: %v", kind, seen)
		}
	}
}

// Lines with numbers and with BoardTexts do not depend on the desk.
func TestConsoleNumbersAndTexts(t *testing.T) {
	desks := []impl.Desk{impl.FirstDesk(), deskWith(of("11/01"), []int{0, 1}), deskWith(of("000001"), []int{5})}
	for _, d := range desks {
		for _, line := range numberLines() {
			expectTold(t, d, line)
		}
		for _, b := range append(sampleBoards(), edgeBoards()...) {
			text := pictureOf(b).text()
			if reply := expectTold(t, d, "board "+text); reply != "ok" {
				t.Errorf("%q is no text for the model", text)
			}
		}
	}
}

// All words of up to four bytes that may be in a number, and all of up to five that may be in a BoardText.
func TestConsoleWords(t *testing.T) {
	d := deskWith(of("1100/0110/0011/1001"), []int{0, -1, 2, 3})
	words := func(letters string, most int) []string {
		all, last := []string{""}, []string{""}
		for range most {
			var longer []string
			for _, word := range last {
				for _, letter := range cutAt(letters, ' ') {
					longer = append(longer, word+letter)
				}
			}
			all, last = append(all, longer...), longer
		}
		return all
	}
	for _, word := range words("0 1 4 9 + - /", 4) {
		for _, line := range []string{"full " + word, "lift " + word, "put 1 " + word, "put " + word + " 1", "sets 4 " + word, "sets " + word + " 1", "couples " + word, "queens " + word} {
			expectTold(t, d, line)
		}
	}
	for _, word := range words("0 1 / 2", 5) {
		expectTold(t, d, "board "+word)
	}
}

// Lines that are none of the table change nothing.
func TestConsoleWhat(t *testing.T) {
	desks := []impl.Desk{
		impl.FirstDesk(), deskWith(of("110/011/101"), []int{1, 2, 0}), deskWith(of("1"), []int{0}), deskWith(of("0"), []int{-1}),
		deskWith(of("111111/111111/111111/111111/111111/111111"), []int{-1, 5, 4, -1, 0, 1}), deskWith(of("000001"), []int{5}),
	}
	for _, d := range desks {
		for _, line := range whatLines() {
			expectLine(t, d, line, d, "what")
		}
	}
}

// expectScript checks the three functions of a script against the model.
func expectScript(t *testing.T, lines []string) told {
	t.Helper()
	want := tellScript(lines)
	s := script(lines)
	replies, ok := impl.RunScript(s)
	if !ok || !slices.Equal(replies, want.replies) {
		t.Errorf("%q: the replies %q %v instead of %q", s, replies, ok, want.replies)
	}
	behind, ok := impl.DeskAfter(s)
	if !ok || !sameDesk(behind, want.last().desk()) {
		t.Errorf("%q: the desk %v %v instead of %v", s, behind, ok, want.last().desk())
	}
	failed, ok := impl.FailedLines(s)
	if !ok || !sameList(failed, want.failed) {
		t.Errorf("%q: the failed lines %v %v instead of %v", s, failed, ok, want.failed)
	}
	return want
}

func TestConsoleScripts(t *testing.T) {
	most, failed, done := 0, 0, 0
	for _, lines := range mixedScripts(600) {
		o := expectScript(t, lines)
		most = max(most, len(lines))
		failed += len(o.failed)
		done += len(lines) - len(o.failed)
	}
	if most != impl.MaxLines || failed < 1000 || done < 1000 {
		t.Errorf("up to %d lines, of which %d failed and %d did not", most, failed, done)
	}
}

// Scripts that are as long as can be, and a little longer.
func TestConsoleLimits(t *testing.T) {
	expectScript(t, nil)
	expectScript(t, []string{""})
	for _, line := range []string{"", " ", "show", "more", "put 0 0", "fly", "board 111111/111111/111111/111111/111111/111111"} {
		expectScript(t, slices.Repeat([]string{line}, impl.MaxLines-1))
		expectScript(t, slices.Repeat([]string{line}, impl.MaxLines))
		failScript(t, strings.Repeat(line+"\n", impl.MaxLines+1))
		failScript(t, strings.Repeat(line+"\n", impl.MaxLines)+"x")
	}
	// The first line is as long as it has to be for a script of just so many bytes, of one line or of all.
	for _, behind := range [][]string{nil, {"put 0 0", "more"}, slices.Repeat([]string{"put 0 1", "lift 0"}, 24)} {
		for _, more := range []int{-1, 0, 1} {
			first := strings.Repeat("x", impl.MaxScript-1-len(script(behind))+more)
			lines := append([]string{first}, behind...)
			if len(script(lines)) != impl.MaxScript+more {
				t.Fatal("a script of", len(script(lines)), "bytes")
			}
			if more > 0 {
				failScript(t, script(lines))
			} else {
				expectScript(t, lines)
			}
		}
	}
}

// failScript checks that a text is no script.
func failScript(t *testing.T, s string) {
	t.Helper()
	what := fmt.Sprintf("%d bytes that begin with %.20q", len(s), s)
	fails(t, "RunScript, "+what, both(impl.RunScript(s))...)
	fails(t, "DeskAfter, "+what, both(impl.DeskAfter(s))...)
	fails(t, "FailedLines, "+what, both(impl.FailedLines(s))...)
}

func TestConsoleNoScripts(t *testing.T) {
	for _, s := range []string{
		" ", "x", "show", "show\nshow", "\nshow", "\n\n ", "show\n ", "show\r", "show\n\r", "show\n\x00", "put 0 1\nmore", "fly\nfly", "\n ",
		"board 1", "full 3\nput 0 0\nput 1", "show\x0b", "show\n\u2028", strings.Repeat("x", impl.MaxScript), strings.Repeat("x", impl.MaxScript-1),
		strings.Repeat("x\n", 49) + "x", strings.Repeat("\n", 50) + "show", strings.Repeat("\n", 49) + "show",
		strings.Repeat("\n", 51), strings.Repeat("\n", 52), strings.Repeat("\n", 3000), strings.Repeat("\n", 3001), strings.Repeat("x", 3000) + "\n",
		strings.Repeat("x", 100000), strings.Repeat("show\n", 100000),
	} {
		failScript(t, s)
	}
}

// A line may be as long as a script, and has no newline.
func TestConsoleLineLimits(t *testing.T) {
	d := deskWith(of("110/011/101"), []int{1, 2, 0})
	for _, long := range []string{strings.Repeat("x", 3000), strings.Repeat(" ", 3000), strings.Repeat("1", 3000), "full " + strings.Repeat("1", 2995), "board " + strings.Repeat("1/", 1497), "show" + strings.Repeat(" ", 2996)} {
		if len(long) != impl.MaxScript {
			t.Fatal("a line of", len(long), "bytes")
		}
		expectLine(t, d, long, d, "what")
		expectLine(t, d, long[:2999], d, "what")
		for _, line := range []string{long + "x", " " + long, long + long} {
			behind, reply, ok := impl.DeskLine(d, line)
			fails(t, "DeskLine, a long line", behind, reply, ok)
		}
	}
	for _, line := range []string{"\n", "show\n", "\nshow", "sh\now", "put 0\n1", "show\nshow", "show\nshow\n", "fly\n", "\n\n", strings.Repeat("x", 2999) + "\n"} {
		behind, reply, ok := impl.DeskLine(d, line)
		fails(t, fmt.Sprintf("DeskLine %.20q", line), behind, reply, ok)
	}
}

func TestConsoleWrongDesks(t *testing.T) {
	lines := append(plainLines(), "board 1", "full 3", "put 0 0", "lift 0", "couples 3", "sets 4 2", "queens 4", "fly", "", "\n")
	for i, d := range wrongDesks() {
		for j, line := range lines {
			if i < 200 || (i+j)%7 == 0 {
				behind, reply, ok := impl.DeskLine(d, line)
				fails(t, fmt.Sprintf("DeskLine %v %q", d, line), behind, reply, ok)
			}
		}
	}
}
