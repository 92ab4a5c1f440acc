package run

import (
	"strconv"
	"strings"
	"testing"
)

const most = 3000 // bytes of a text

// said is a line, and what is answered to it.
type said struct{ line, answer string }

// xs is a text of n letters.
func xs(n int) string { return strings.Repeat("x", n) }

func short(s string) string {
	if len(s) > 160 {
		return strconv.Quote(s[:160]) + " .. (" + strconv.Itoa(len(s)) + ")"
	}
	return strconv.Quote(s)
}

func checkRun(t *testing.T, text, want string) {
	t.Helper()
	if got := Run(text); got != want {
		t.Errorf("Run of %s: got %s, want %s", short(text), short(got), short(want))
	}
}

// play says lines one behind the other, in one text; and each beginning of them, with and without the last one's end.
func play(t *testing.T, l ...said) {
	t.Helper()
	text, want := "", ""
	for i, s := range l {
		text, want = text+s.line, want+s.answer+"\n"
		if s.line != "" {
			checkPlayed(t, l[:i+1], text, want)
		}
		text += "\n"
		checkPlayed(t, l[:i+1], text, want)
		if t.Failed() {
			return
		}
	}
}

func checkPlayed(t *testing.T, l []said, text, want string) {
	t.Helper()
	if len(text) > most {
		t.Fatalf("%s is too long to play", short(text))
	}
	got := Run(text)
	if got == want {
		return
	}
	answers := append(strings.SplitAfter(got, "\n"), make([]string, len(l))...)
	for i, s := range l {
		if answers[i] != s.answer+"\n" {
			t.Errorf("line %d, %s: got %s, want %s", i, short(s.line), short(answers[i]), short(s.answer))
			return
		}
	}
	t.Errorf("%s: got %s, want %s", short(text), short(got), short(want))
}

// alone says each line in a text of its own.
func alone(t *testing.T, l ...said) {
	t.Helper()
	for _, s := range l {
		play(t, s)
	}
}

// right lines of each row, that are answered so if nothing is ahead of them.
func right() []said {
	return []said{
		{"put 10 5 0", "0a"},
		{"get 0a 5", "10 1"},
		{"code tea", "0400bf"},
		{"bits tea", "18"},
		{"say type text", "88"},
		{"hear 88", "type=text"},
		{"frame 000000000400000001", "0 4 1 0 0"},
		{"take 1", "99"},
		{"give 1", "101"},
		{"ask k 0 1", "yes"},
		{"route h /a one", "ok"},
		{"find h /a", "ErrNone"},
	}
}
