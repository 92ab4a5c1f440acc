package line

import (
	"strings"
	"testing"

	"tollgate/api"
)

const most = api.MaxText

const (
	tokenBytes = "abcdefghijklmnopqrstuvwxyzABCDEFGHIJKLMNOPQRSTUVWXYZ0123456789-_"
	nameBytes  = "abcdefghijklmnopqrstuvwxyz0123456789-_"
)

// one byte as a text.
func one(c int) string { return string([]byte{byte(c)}) }

// xs is a text of n letters.
func xs(n int) string { return strings.Repeat("x", n) }

func within(set string) func(c int) bool {
	return func(c int) bool { return strings.IndexByte(set, byte(c)) >= 0 }
}

func plainByte(c int) bool { return c >= 32 && c <= 126 }

func pathByte(c int) bool { return c >= 33 && c <= 126 }

// place of a byte in a text.
type place struct {
	text func(c string) string
	edge bool // the text begins or ends there
}

func places() []place {
	return []place{
		{func(c string) string { return c }, true},
		{func(c string) string { return c + "x" }, true},
		{func(c string) string { return "x" + c + "x" }, false},
		{func(c string) string { return "x" + c }, true},
		{func(c string) string { return c + xs(most-1) }, true},
		{func(c string) string { return xs(most/2) + c + xs(most/2-1) }, false},
		{func(c string) string { return xs(most-2) + c + "x" }, false},
		{func(c string) string { return xs(most-1) + c }, true},
	}
}

// eachByte hands over each of the 256 bytes in each of the places, and whether the text is one.
func eachByte(may func(c int) bool, ask func(s string, ok bool)) {
	for c := range 256 {
		for _, p := range places() {
			ask(p.text(one(c)), may(c) && !(p.edge && c == ' '))
		}
	}
}

func checkToken(t *testing.T, s string, want bool) {
	t.Helper()
	if got := Token(s); got != want {
		t.Errorf("Token of %s: got %v", short(s), got)
	}
}

func checkPlain(t *testing.T, s string, want bool) {
	t.Helper()
	if got := Plain(s); got != want {
		t.Errorf("Plain of %s: got %v", short(s), got)
	}
}

func TestToken(t *testing.T) {
	for _, s := range []string{"a", "Z", "0", "-", "_", "GET", "x_1", "b-c", "PUT-1", "--", "__", "007", tokenBytes, xs(most - 1), xs(most)} {
		checkToken(t, s, true)
	}
	for _, s := range []string{"", " ", " a", "a ", "a b", "a:", "a.b", "a/b", "\x00", "\r\n", "a\n", "ä", "€", xs(most + 1), xs(2 * most), xs(1 << 20), xs(most-1) + " ", xs(most) + " "} {
		checkToken(t, s, false)
	}
}

func TestTokenEachByte(t *testing.T) {
	eachByte(within(tokenBytes), func(s string, ok bool) { checkToken(t, s, ok) })
}

func TestPlain(t *testing.T) {
	for _, s := range []string{"", "a", "!", "~", "a b", "a  b", "a; b", "\"x\"", "/x?y", "host.x:80", "a " + xs(most-2), xs(most-2) + " x", xs(most - 1), xs(most)} {
		checkPlain(t, s, true)
	}
	for _, s := range []string{" ", "  ", " a", "a ", " a ", "a b ", "\t", "a\tb", "\x00", "\r", "\n", "a\r\n", "\x7f", "\x80", "ä", xs(most + 1), xs(1 << 20), xs(most-1) + " ", xs(most) + " ", " " + xs(most-1), "a" + strings.Repeat(" ", most-1), strings.Repeat(" ", most)} {
		checkPlain(t, s, false)
	}
	checkPlain(t, "a"+strings.Repeat(" ", most-2)+"b", true)
}

func TestPlainEachByte(t *testing.T) {
	eachByte(plainByte, func(s string, ok bool) { checkPlain(t, s, ok) })
}
