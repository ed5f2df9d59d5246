package tests

import (
	"fmt"
	"slices"
	"strings"
	"testing"

	"loop.example/g01125/impl"
)

// Promise 10: scripts do what the calls do that they name.

// outcome is a desk and a reply.
type outcome struct {
	desk  impl.Desk
	reply string
}

// lineOn makes the call of DeskLine, which has to succeed.
func lineOn(d impl.Desk, text string) outcome {
	behind, reply, ok := impl.DeskLine(d, text)
	return outcome{must(behind, ok), reply}
}

// listed is the outcome of a line that asks a call for a list.
func listed(d impl.Desk, list []int, ok bool) outcome {
	if !ok {
		return outcome{d, "no"}
	}
	return outcome{d, listTold(list)}
}

// counted is the outcome of a line that asks a call for a number.
func counted(d impl.Desk, n int, ok bool) outcome {
	if !ok {
		return outcome{d, "no"}
	}
	return outcome{d, fmt.Sprint(n)}
}

// drawn is the outcome of a line behind which the desk has a board that a call returns, and no rooks.
func drawn(d impl.Desk, b impl.Board, ok bool, reply string) outcome {
	if !ok {
		return outcome{d, "no"}
	}
	return outcome{deskWith(b, noRooks(b.Rows)), reply}
}

// called is the outcome that the calls give which the document's table names, for its lines with no words behind the first.
func called(d impl.Desk, name string) outcome {
	b := d.Board
	switch name {
	case "other":
		other, ok := impl.ComplementOf(b)
		return drawn(d, other, ok, must(impl.BoardText(other)))
	case "turn":
		next := impl.Desk{Board: must(impl.TurnBoard(b)), Rooks: must(impl.TurnPlacement(b, d.Rooks))}
		return outcome{next, must(impl.BoardText(next.Board))}
	case "more":
		way, ok := impl.LongerWay(b, d.Rooks)
		if !ok {
			return outcome{d, "no"}
		}
		next := impl.Desk{Board: b, Rooks: must(impl.FollowWay(b, d.Rooks, way))}
		return outcome{next, listTold(next.Rooks)}
	case "show":
		return outcome{d, must(impl.BoardText(b))}
	case "rooks":
		return outcome{d, listTold(d.Rooks)}
	case "lack":
		lack, ok := impl.LackOf(b)
		return counted(d, lack, ok)
	}
	calls := map[string]func(b impl.Board) ([]int, bool){
		"numbers": impl.RookNumbers, "hits": impl.HitNumbers, "refuse": impl.RefusingRows, "files": impl.FileNumbers,
	}
	list, ok := calls[name](b)
	return listed(d, list, ok)
}

// expectCalled checks the outcome of a line, and that what it leaves is a desk.
func expectCalled(t *testing.T, d impl.Desk, text string, want outcome) {
	t.Helper()
	got := lineOn(d, text)
	if !sameDesk(got.desk, want.desk) || got.reply != want.reply {
		t.Errorf("%q on %v: %v, but %v by the calls", text, d, got, want)
	}
	if !impl.IsDesk(got.desk) {
		t.Errorf("%q on %v leaves %v", text, d, got.desk)
	}
}

// manyDesks holds desks with all boards of up to three rows and columns, and with those of the other chapters.
func manyDesks() []impl.Desk {
	list := consoleDesks()
	for _, b := range append(sampleBoards(), mixedBoards()...) {
		for i, rooks := range rooksOn(b) {
			if i%3 == 0 {
				list = append(list, deskWith(b, rooks))
			}
		}
	}
	return list
}

func TestConsoleLawsOfCalls(t *testing.T) {
	for _, d := range manyDesks() {
		for _, name := range plainLines() {
			expectCalled(t, d, name, called(d, name))
		}
	}
}

// A rook is put where that leaves a placement of one rook more, and lifted where it leaves one of one less.
func TestConsoleLawsOfRooks(t *testing.T) {
	for _, d := range manyDesks() {
		count := must(impl.CountRooks(d.Rooks))
		for r := range d.Board.Rows + 1 {
			next := deskWith(d.Board, d.Rooks)
			want := outcome{d, "no"}
			if r < d.Board.Rows && d.Rooks[r] != -1 {
				next.Rooks[r] = -1
				want = outcome{next, "ok"}
			}
			expectCalled(t, d, fmt.Sprint("lift ", r), want)
			for c := range d.Board.Columns + 1 {
				want := outcome{d, "no"}
				if next := deskWith(d.Board, d.Rooks); r < d.Board.Rows && c < d.Board.Columns {
					next.Rooks[r] = c
					if must(impl.IsPlacement(d.Board, next.Rooks)) && must(impl.CountRooks(next.Rooks)) == count+1 {
						want = outcome{next, "ok"}
					}
				}
				expectCalled(t, d, fmt.Sprint("put ", r, " ", c), want)
			}
		}
	}
}

// Lines with numbers give what the calls give, for all numbers at which these succeed and many others.
func TestConsoleLawsOfNumbers(t *testing.T) {
	desks := []impl.Desk{impl.FirstDesk(), deskWith(of("11/01"), []int{0, 1}), deskWith(of("000001"), []int{5})}
	numbers := []int{63, 64, 99, 100, 255, 256, 4294, 65535, 65536, 99999, 100000, 999998, 999999}
	for n := 0; n <= 20; n++ {
		numbers = append(numbers, n)
	}
	for _, d := range desks {
		for _, n := range numbers {
			full, ok := impl.FullBoard(n, n)
			expectCalled(t, d, fmt.Sprint("full ", n), drawn(d, full, ok, "ok"))
			couples, ok := impl.CountCouples(n)
			expectCalled(t, d, fmt.Sprint("couples ", n), counted(d, couples, ok))
			queens, ok := impl.FirstQueens(n)
			expectCalled(t, d, fmt.Sprint("queens ", n), listed(d, queens, ok))
			for _, k := range numbers {
				sets, ok := impl.StirlingSecond(n, k)
				expectCalled(t, d, fmt.Sprint("sets ", n, " ", k), counted(d, sets, ok))
			}
		}
	}
}

// A word is a BoardText exactly if ParseBoard takes it.
func TestConsoleLawsOfTexts(t *testing.T) {
	d := deskWith(of("110/011/101"), []int{1, 2, -1})
	words := wrongTexts()
	for _, b := range append(sampleBoards(), mixedBoards()...) {
		text := must(impl.BoardText(b))
		words = append(words, text, text+"/", "/"+text, text+"0", text+"1", text+"/1", text[1:], text[:len(text)-1], text+"2", strings.ReplaceAll(text, "/", ","))
	}
	for _, word := range words {
		want := outcome{d, "what"}
		if b, ok := impl.ParseBoard(word); ok {
			want = drawn(d, b, ok, "ok")
		}
		expectCalled(t, d, "board "+word, want)
	}
}

// What is shown can be set up again, turns and complements are undone, and a rook put is lifted.
func TestConsoleLawsOfUndoing(t *testing.T) {
	for _, d := range manyDesks() {
		fresh := deskWith(d.Board, noRooks(d.Board.Rows))
		shown := lineOn(d, "show").reply
		if again := lineOn(impl.FirstDesk(), "board "+shown); again.reply != "ok" || !sameDesk(again.desk, fresh) {
			t.Errorf("%v shows %q, which sets up %v", d, shown, again)
		}
		if turned := lineOn(lineOn(d, "turn").desk, "turn"); !sameDesk(turned.desk, d) || turned.reply != shown {
			t.Errorf("%v is %v behind two turns", d, turned)
		}
		if other := lineOn(lineOn(d, "other").desk, "other"); !sameDesk(other.desk, fresh) || other.reply != shown {
			t.Errorf("%v is %v behind two times other", d, other)
		}
		for r, c := range d.Rooks {
			if c == -1 {
				continue
			}
			lifted := lineOn(d, fmt.Sprint("lift ", r)).desk
			if put := lineOn(lifted, fmt.Sprint("put ", r, " ", c)); put.reply != "ok" || !sameDesk(put.desk, d) {
				t.Errorf("%v is %v behind a rook that is lifted and put again", d, put)
			}
		}
	}
}

// The line more makes one rook more each time, until there are MostRooks.
func TestConsoleLawsOfMore(t *testing.T) {
	for _, d := range manyDesks() {
		most := must(impl.MostRooks(d.Board))
		for count := must(impl.CountRooks(d.Rooks)); count < most; count++ {
			o := lineOn(d, "more")
			if o.reply == "no" || must(impl.CountRooks(o.desk.Rooks)) != count+1 {
				t.Errorf("more on %v: %v, and at most %d rooks", d, o, most)
			}
			d = o.desk
		}
		if o := lineOn(d, "more"); o.reply != "no" || !sameDesk(o.desk, d) {
			t.Errorf("more on %v: %v, and at most %d rooks", d, o, most)
		}
	}
}

// folded checks that the functions of a script are what DeskLine gives for its lines, one after the other.
func folded(t *testing.T, lines []string) {
	t.Helper()
	d := impl.FirstDesk()
	var replies []string
	var failed []int
	for i, text := range lines {
		o := lineOn(d, text)
		replies = append(replies, o.reply)
		if o.reply == "no" || o.reply == "what" {
			failed = append(failed, i+1)
			if !sameDesk(o.desk, d) {
				t.Errorf("%q on %v: %v", text, d, o)
			}
		}
		if !impl.IsDesk(o.desk) {
			t.Errorf("%q on %v leaves %v", text, d, o.desk)
		}
		d = o.desk
	}
	s := script(lines)
	if got := must(impl.RunScript(s)); len(got) != len(lines) || !slices.Equal(got, replies) {
		t.Errorf("%q: %q as a script, and %q line by line", s, got, replies)
	}
	if got := must(impl.DeskAfter(s)); !sameDesk(got, d) {
		t.Errorf("%q: %v as a script, and %v line by line", s, got, d)
	}
	if got := must(impl.FailedLines(s)); !sameList(got, failed) {
		t.Errorf("%q: %v failed as a script, and %v line by line", s, got, failed)
	}
}

// shortLines holds lines that change much on the first desk and behind each other, and some that fail.
func shortLines() []string {
	return []string{
		"put 0 0", "put 0 1", "put 1 1", "put 1 0", "put 2 2", "lift 0", "lift 1", "more", "turn", "other", "full 2", "board 110/100", "board 1",
		"rooks", "hits", "refuse", "full 0", "queens 3", "fly", "",
	}
}

// All scripts of up to three of these lines, and long ones.
func TestConsoleLawsOfScripts(t *testing.T) {
	all := shortLines()
	folded(t, nil)
	for _, a := range all {
		folded(t, []string{a})
		for _, b := range all {
			folded(t, []string{a, b})
			for _, c := range all {
				folded(t, []string{a, b, c})
			}
		}
	}
	for _, lines := range mixedScripts(400) {
		folded(t, lines)
	}
	for _, text := range all {
		folded(t, slices.Repeat([]string{text}, impl.MaxLines))
	}
	folded(t, slices.Repeat([]string{"x"}, impl.MaxLines))
	folded(t, []string{strings.Repeat(" ", impl.MaxScript-1)})
}

// A script is what its beginning is, and then its end on the desk behind: no line knows those before it but by the desk.
func TestConsoleLawsOfBeginnings(t *testing.T) {
	for _, lines := range mixedScripts(60) {
		replies := must(impl.RunScript(script(lines)))
		failed := must(impl.FailedLines(script(lines)))
		for i := range lines {
			beginning := script(lines[:i+1])
			if got := must(impl.RunScript(beginning)); !slices.Equal(got, replies[:i+1]) {
				t.Errorf("%q: %q, and %q with more lines", beginning, got, replies)
			}
			some := slices.DeleteFunc(slices.Clone(failed), func(number int) bool { return number > i+1 })
			if got := must(impl.FailedLines(beginning)); !sameList(got, some) {
				t.Errorf("%q: %v failed, and %v with more lines", beginning, got, failed)
			}
			before := must(impl.DeskAfter(script(lines[:i])))
			if o := lineOn(before, lines[i]); o.reply != replies[i] || !sameDesk(o.desk, must(impl.DeskAfter(beginning))) {
				t.Errorf("%q on %v: %v, and the reply %q in a script", lines[i], before, o, replies[i])
			}
		}
	}
}
