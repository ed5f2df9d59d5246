package tests

import (
	"fmt"
	"slices"
	"strings"

	"loop.example/g01125/impl"
)

// table is the tests' own model of a desk.
type table struct {
	shown picture
	rooks []int
}

// bare is the table with a picture and no rooks.
func bare(p picture) table {
	return table{p, noRooks(len(p))}
}

// noRooks is the placement without rooks on as many rows.
func noRooks(rows int) []int {
	list := make([]int, rows)
	for r := range list {
		list[r] = -1
	}
	return list
}

// firstTable is the table at which scripts begin.
func firstTable() table {
	return bare(pictureOf(of("110/011/101")))
}

// desk is the Desk that a table stands for.
func (m table) desk() impl.Desk {
	return impl.Desk{Board: m.shown.board(), Rooks: append([]int{}, m.rooks...)}
}

// deskWith is the desk with a board and rooks, in memory of its own.
func deskWith(b impl.Board, rooks []int) impl.Desk {
	return table{pictureOf(b), rooks}.desk()
}

func sameDesk(a, b impl.Desk) bool {
	return sameBoard(a.Board, b.Board) && sameList(a.Rooks, b.Rooks)
}

// isTable says what a desk is, word by word.
func isTable(d impl.Desk) bool {
	return impl.IsBoard(d.Board) && isPlacing(pictureOf(d.Board), d.Rooks)
}

// cutAt cuts a text wherever it has a byte, so that there is one part more than there are such bytes.
func cutAt(text string, at byte) []string {
	var parts []string
	begin := 0
	for i := 0; i < len(text); i++ {
		if text[i] == at {
			parts = append(parts, text[begin:i])
			begin = i + 1
		}
	}
	return append(parts, text[begin:])
}

// numberTold reads a number in 0..999999 digit by digit. It is -1 if a word is none.
func numberTold(word string) int {
	if len(word) == 0 || len(word) > 6 || len(word) > 1 && word[0] == '0' {
		return -1
	}
	n := 0
	for i := 0; i < len(word); i++ {
		if word[i] < '0' || word[i] > '9' {
			return -1
		}
		n = 10*n + int(word[i]-'0')
	}
	return n
}

// pictureTold reads a BoardText. It is nil if a word is none.
func pictureTold(word string) picture {
	rows := cutAt(word, '/')
	var p picture
	for _, row := range rows {
		if len(rows) > 6 || len(row) < 1 || len(row) > 6 || len(row) != len(rows[0]) || strings.Trim(row, "01") != "" {
			return nil
		}
		var line []bool
		for i := 0; i < len(row); i++ {
			line = append(line, row[i] == '1')
		}
		p = append(p, line)
	}
	return p
}

// listTold writes a list as replies do.
func listTold(list []int) string {
	s := ""
	for i, n := range list {
		if i > 0 {
			s += ","
		}
		if n == -1 {
			s += "-"
		} else {
			s += fmt.Sprint(n)
		}
	}
	if s == "" {
		return "none"
	}
	return s
}

// formOf tells what stands behind a first word: t for a BoardText, n for a number. Of other words it is x.
func formOf(name string) string {
	switch {
	case name == "board":
		return "t"
	case slices.Contains([]string{"full", "lift", "couples", "queens"}, name):
		return "n"
	case name == "put" || name == "sets":
		return "nn"
	case slices.Contains(plainLines(), name):
		return ""
	}
	return "x"
}

// done does what a line tells, on a table, and returns the table behind it and the reply.
func (m table) done(line string) (table, string) {
	words := cutAt(line, ' ')
	form := formOf(words[0])
	if form == "x" || len(form) != len(words)-1 {
		return m, "what"
	}
	var n []int
	var p picture
	for i, word := range words[1:] {
		if form[i] == 't' {
			if p = pictureTold(word); p == nil {
				return m, "what"
			}
			continue
		}
		if n = append(n, numberTold(word)); n[i] == -1 {
			return m, "what"
		}
	}
	if words[0] == "board" {
		return bare(p), "ok"
	}
	if next, reply, changes := m.changed(words[0], n); changes {
		return next, reply
	}
	return m, m.answer(words[0], n)
}

// changed does a line whose effect is told, but for the one with a BoardText, if it is such a line.
func (m table) changed(name string, n []int) (table, string, bool) {
	p := m.shown
	all := func(r, c int) bool { return true }
	switch name {
	case "full":
		if n[0] < 1 || n[0] > 6 {
			return m, "no", true
		}
		return bare(draw(n[0], n[0], all)), "ok", true
	case "other":
		next := bare(draw(len(p), len(p[0]), func(r, c int) bool { return !p[r][c] }))
		return next, next.shown.text(), true
	case "turn":
		next := bare(draw(len(p[0]), len(p), func(r, c int) bool { return p[c][r] }))
		for r, c := range m.rooks {
			if c != -1 {
				next.rooks[c] = r
			}
		}
		return next, next.shown.text(), true
	case "put":
		if n[0] >= len(p) || m.rooks[n[0]] != -1 {
			return m, "no", true
		}
		return m.with(n[0], n[1])
	case "lift":
		if n[0] >= len(p) || m.rooks[n[0]] == -1 {
			return m, "no", true
		}
		return m.with(n[0], -1)
	case "more":
		next := followed(p, m.rooks, wayOf(p, m.rooks))
		if next == nil {
			return m, "no", true
		}
		return table{p, next}, listTold(next), true
	}
	return m, "", false
}

// with puts a rook into a row, or takes it away, if that leaves a placement.
func (m table) with(r, c int) (table, string, bool) {
	next := append([]int{}, m.rooks...)
	next[r] = c
	if !isPlacing(m.shown, next) {
		return m, "no", true
	}
	return table{m.shown, next}, "ok", true
}

// answer is the reply to a line that only asks.
func (m table) answer(name string, n []int) string {
	p, b := m.shown, m.shown.board()
	refusing, lack := []int{}, 0
	if name == "refuse" || name == "lack" {
		refusing, lack = refusingIn(p)
	}
	switch name {
	case "show":
		return p.text()
	case "rooks":
		return listTold(m.rooks)
	case "numbers":
		return listTold(numbersOf(b))
	case "files":
		return listTold(filings(b))
	case "lack":
		return fmt.Sprint(lack)
	case "hits":
		if len(p) == len(p[0]) {
			return listTold(hitCounts(b))
		}
	case "refuse":
		if len(refusing) > 0 {
			return listTold(refusing)
		}
	case "couples":
		if n[0] >= 2 && n[0] <= 10 {
			return fmt.Sprint(countOrders(n[0]).table[0])
		}
	case "sets":
		if n[0] <= 10 && n[1] <= n[0] {
			return fmt.Sprint(setsTold(n[0], n[1]))
		}
	case "queens":
		if n[0] >= 1 && n[0] <= 8 && len(queensOn(n[0])) > 0 {
			return listTold(queensOn(n[0])[0])
		}
	}
	return "no"
}

// setsTold counts the partitions of n with k blocks: all ways of giving n things to k blocks, without those
// that leave some of them empty, each partition being counted once for each order of its blocks.
func setsTold(n, k int) int {
	sum, sign := 0, 1
	for left := 0; left <= k; left++ {
		ways := sign * chosen(k, left)
		for range n {
			ways *= k - left
		}
		sum += ways
		sign = -sign
	}
	return sum / times(k)
}

// consoleBoards holds boards of which each has something of its own in the console: the board of one cell, boards without
// cells and with all, boards that are not square, and boards with rows that refuse.
func consoleBoards() []impl.Board {
	list := append(boardsOfSize(1, 1), boardsOfSize(2, 2)...)
	list = append(list, boardsOfSize(1, 2)...)
	list = append(list, boardsOfSize(2, 1)...)
	return append(append(list, largeBoards()...), edgeBoards()...)
}

// rooksOn holds some placements on a board: some without rooks, with some, and with as many as can be.
func rooksOn(b impl.Board) [][]int {
	var list [][]int
	for _, lists := range placings(b) {
		for i, rooks := range lists {
			if len(lists) <= 6 || i == 0 || i == len(lists)-1 || i%(len(lists)/4+1) == 1 {
				list = append(list, rooks)
			}
		}
	}
	return list
}

// consoleDesks holds desks with the boards of consoleBoards.
func consoleDesks() []impl.Desk {
	var list []impl.Desk
	for _, b := range consoleBoards() {
		for _, rooks := range rooksOn(b) {
			list = append(list, deskWith(b, rooks))
		}
	}
	return list
}

// wrongDesks holds values that are no desks, each for one reason.
func wrongDesks() []impl.Desk {
	list := []impl.Desk{{}, {Rooks: []int{-1, -1, -1}}}
	for _, b := range wrongBoards() {
		list = append(list, impl.Desk{Board: b}, impl.Desk{Board: b, Rooks: noRooks(len(b.Cells))})
		if b.Rows >= 0 && b.Rows <= 7 {
			list = append(list, impl.Desk{Board: b, Rooks: noRooks(b.Rows)})
		}
	}
	for _, b := range consoleBoards() {
		for _, rooks := range wrongPlacings(b) {
			list = append(list, impl.Desk{Board: b, Rooks: rooks})
		}
	}
	return list
}

// plainLines holds the lines of the document's table that have no words behind the first one.
func plainLines() []string {
	return []string{"other", "turn", "more", "show", "rooks", "numbers", "hits", "lack", "refuse", "files"}
}

// numberLines holds lines with numbers at which the functions that they name succeed or fail, but for put and lift.
func numberLines() []string {
	var list []string
	for _, n := range []int{0, 1, 2, 3, 4, 5, 6, 7, 8, 9, 10, 11, 12, 64, 100000, 999999} {
		list = append(list, fmt.Sprint("full ", n), fmt.Sprint("couples ", n), fmt.Sprint("queens ", n))
		for _, k := range []int{0, 1, 2, 3, 9, 10, 11, 999999} {
			list = append(list, fmt.Sprint("sets ", n, " ", k))
		}
	}
	return list
}

// rookLines holds lines that put a rook into each place of a board and about it, and lift the rook of each row.
func rookLines(b impl.Board) []string {
	var list []string
	for _, r := range []int{0, 1, 2, 3, 4, 5, 6, 7, 63, 64, 999999} {
		if r > b.Rows && r < 6 {
			continue
		}
		list = append(list, fmt.Sprint("lift ", r))
		for _, c := range []int{0, 1, 2, 3, 4, 5, 6, 64, 999999} {
			list = append(list, fmt.Sprint("put ", r, " ", c))
		}
	}
	return list
}

// wrongNumbers holds words that are no numbers in 0..999999 without superfluous zeros.
func wrongNumbers() []string {
	return []string{
		"", "00", "01", "02", "000000", "000001", "0999999", "1000000", "9999999", "10000000", "9223372036854775808",
		"18446744073709551617", "+1", "-1", "-0", "+0", "1.", "1.0", "1e1", "0x1", "0b1", "1_0", "1,0", "a", "N", "one", "-", "--1",
		"\t1", "1\t", "1\r", "\x001", "1\x00", "\u00b2", "\uff11", "\xff", "1/1",
	}
}

// wrongTexts holds words that are no BoardTexts.
func wrongTexts() []string {
	return []string{
		"", "/", "1/", "/1", "1//1", "//", "2", "2/0", "a", "B", "1a", "110/011/1", "110/01/101", "1/11", "11/1", "1/1/1/1/1/1/1", "1111111",
		"110/011/101/", "/110/011/101", "110\\011", "110|011", "110,011", "1\t1", "1\r", "\x001", "1\x00", "\uff11", "\xff", "-1", "+1", "1.0",
	}
}

// whatLines holds lines that are none of the table.
func whatLines() []string {
	list := []string{
		"", " ", "  ", "fly", "what", "no", "ok", "none", "Show", "SHOW", "shows", "sho", "show\t", "\tshow", "show\r", "show\x00", "sh\x00ow",
		" show", "show ", " show ", "show  ", "  show", "rooks 0", "numbers 1", "hits 3", "lack 1", "refuse 0", "files 2", "other 1",
		"turn turn", "more 1", "show,", "show;rooks", "R", "N", "B", "put R C", "full N", "board B", "\xff", "\u00e9", "show\u00a0",
		"board", "board ", "board  1", "board 1 ", "board 1 1", "board 110 011", "board 110/011/101/", "board 110/011/101 ok", " board 1",
		"full", "full ", "full  3", "full 3 ", "full 3 3", " full 3", "lift", "lift ", "lift  0", "lift 0 ", "lift 0 0",
		"put", "put ", "put 0", "put 0 ", "put  0", "put 0  1", "put  0 1", "put 0 1 ", "put 0 1 2", " put 0 1", "put 0\t1", "put,0,1",
		"couples", "couples ", "couples  3", "couples 3 ", "couples 3 3", "sets", "sets 4", "sets 4 ", "sets 4  2", "sets 4 2 ", "sets 4 2 1",
		"queens", "queens ", "queens  4", "queens 4 ", "queens 4 4", "put0 1", "full3", "board110",
	}
	for _, word := range wrongNumbers() {
		list = append(list, "full "+word, "lift "+word, "couples "+word, "queens "+word, word, word+" 1", "show "+word)
		list = append(list, "put "+word+" 0", "put 0 "+word, "sets "+word+" 0", "sets 4 "+word, "put "+word+" "+word)
	}
	for _, text := range wrongTexts() {
		list = append(list, "board "+text, text, text+" 1", "1 "+text, "board "+text+" "+text)
	}
	return list
}

// told is what the tests' own model says of a script.
type told struct {
	replies []string
	tables  []table // behind each line
	failed  []int
}

// last is the table behind a script.
func (o told) last() table {
	if len(o.tables) == 0 {
		return firstTable()
	}
	return o.tables[len(o.tables)-1]
}

// tellScript does the lines of a script one after the other.
func tellScript(lines []string) told {
	var o told
	for i, line := range lines {
		next, reply := o.last().done(line)
		o.tables = append(o.tables, next)
		o.replies = append(o.replies, reply)
		if reply == "no" || reply == "what" {
			o.failed = append(o.failed, i+1)
		}
	}
	return o
}

// script ends each line with a newline.
func script(lines []string) string {
	s := ""
	for _, line := range lines {
		s += line + "\n"
	}
	return s
}

// mixedScripts holds scripts of lines of all kinds, in a mixture that is always the same.
func mixedScripts(count int) [][]string {
	state := 54321
	next := func(below int) int {
		state = (state*1103515245 + 12345) % (1 << 31)
		return state >> 16 % below
	}
	one := func(list []string) string { return list[next(len(list))] }
	boards := consoleBoards()
	wrong, numbers := whatLines(), numberLines()
	var scripts [][]string
	for range count {
		var lines []string
		for range next(51) {
			switch next(12) {
			case 0:
				lines = append(lines, "board "+pictureOf(boards[next(len(boards))]).text())
			case 1:
				lines = append(lines, one(wrong))
			case 2:
				lines = append(lines, one(numbers))
			case 3, 4:
				lines = append(lines, one(plainLines()))
			case 5, 6:
				lines = append(lines, "more")
			case 7:
				lines = append(lines, fmt.Sprint("lift ", next(6)))
			default:
				lines = append(lines, fmt.Sprint("put ", next(5), " ", next(5)))
			}
		}
		for len(script(lines)) > 3000 {
			lines = lines[1:]
		}
		scripts = append(scripts, lines)
	}
	return scripts
}
