package run

import (
	"strings"
	"testing"
)

// What is said and what is heard have a table each.
func TestTwoTables(t *testing.T) {
	play(t, said{"say a 1", "4001610131"}, said{"hear 8d", "ErrNone"})
	play(t, said{"hear 4001610131", "a=1"}, said{"say a 1", "4001610131"}, said{"say a 1", "8d"}, said{"hear 8d", "a=1"})
	play(t, said{"hear 4001610131", "a=1"}, said{"say b 2", "4001620132"}, said{"hear 8d", "a=1"}, said{"say b 2", "8d"}, said{"hear 8e", "ErrNone"}, said{"say b 2", "8d"}, said{"hear 8d", "ErrState"})
	play(t, said{"say a 1", "4001610131"}, said{"hear 20", "-"}, said{"say a 1", "8d"})
}

// mixed has lines of all rows that hang on what is ahead of them.
func mixed() []said {
	return []said{
		{"find h /a", "ErrNone"}, {"take 60", "40"}, {"say a 1", "4001610131"}, {"ask k 3 5", "yes"}, {"hear 4001620132", "b=2"}, {"route h /a one", "ok"},
		{"take 41", "ErrFlow"}, {"find h /a/b", "one /b"}, {"ask k 2 1", "ErrState"}, {"say a 1", "8d"}, {"hear 8d", "b=2"}, {"give 1", "41"},
		{"", "bad"}, {"route h /a two", "ErrClash"}, {"hear 8e", "ErrNone"}, {"ask k 3 1", "no"}, {"take 41", "0"}, {"say a 2", "4d0132"},
		{"hear 8d", "ErrState"}, {"find h /a", "one /"}, {"take 1", "ErrFlow"}, {"say a 1", "8e"}, {"ask k 4 1", "yes"}, {"take 01", "bad"}, {"give 3", "3"},
	}
}

// Each thing goes on where it was left, whatever stands between, as long as that does not concern it.
func TestKept(t *testing.T) {
	play(t, mixed()...)
	between := []said{{"", "bad"}, {" ", "bad"}, {"take", "bad"}, {"say a", "bad"}, {"hear 8", "bad"}, {"ask k 3", "bad"}, {"route h /b", "bad"}, {"put 10 5 0", "0a"}, {"get 0a 5", "10 1"}, {"get 1f 5", "ErrShort"}, {"code a", "0b"}, {"bits a", "6"}, {"frame 00", "ErrShort"}, {"take -1", "ErrRange"}, {"give 0", "ErrRange"}, {"ask k 3 6", "ErrRange"}, {"route h b two", "ErrSyntax"}, {"find h x", "ErrNone"}, {"say " + xs(401) + " ", "ErrFull"}}
	for _, b := range between {
		var l []said
		for _, s := range mixed() {
			l = append(l, b, s)
		}
		text, want := "", ""
		for _, s := range l {
			if len(text)+len(s.line) >= most {
				break
			}
			text, want = text+s.line+"\n", want+s.answer+"\n"
		}
		checkRun(t, text, want)
	}
}

// Of two calls none knows of the other, whatever was said ahead.
func TestNothingKept(t *testing.T) {
	for range 3 {
		for _, ahead := range append(mixed(), right()...) {
			Run(ahead.line + "\n")
			Run(strings.Repeat(ahead.line+"\n", 10))
		}
		play(t, mixed()...)
		alone(t, right()...)
		alone(t, said{"hear 8d", "ErrNone"}, said{"say a 1", "4001610131"}, said{"take 0", "100"}, said{"ask k 0 5", "yes"}, said{"route h /a one", "ok"}, said{"find h /a", "ErrNone"})
	}
}

// At once, too.
func TestAtOnce(t *testing.T) {
	text, want := "", ""
	for _, s := range mixed() {
		text, want = text+s.line+"\n", want+s.answer+"\n"
	}
	got := make(chan string)
	for range 20 {
		go func() { got <- Run(text) }()
	}
	for range 20 {
		if s := <-got; s != want {
			t.Errorf("got %s, want %s", short(s), short(want))
		}
	}
}

// The answers to a beginning, cut wherever a line ends, are the beginning of all answers, one a line.
func TestBeginnings(t *testing.T) {
	lines := []string{}
	for _, s := range append(mixed(), append(right(), mixed()...)...) {
		lines = append(lines, s.line)
	}
	text := strings.Join(lines, "\n") + "\n"
	all := strings.SplitAfter(Run(text), "\n")
	if len(all) != len(lines)+1 {
		t.Fatalf("%d answers to %d lines", len(all)-1, len(lines))
	}
	for n := range len(lines) + 1 {
		ahead := strings.Join(lines[:n], "\n")
		if n > 0 {
			ahead += "\n"
		}
		checkRun(t, ahead, strings.Join(all[:n], ""))
	}
}
