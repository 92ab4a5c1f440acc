package run

import (
	"strings"
	"testing"
)

// As long as a text may be, and longer, wherever its lines end.
func TestTooLong(t *testing.T) {
	for _, c := range []struct{ text, want string }{
		{"bits " + xs(most-5), "17970\n"},
		{"bits " + xs(most-6) + "\n", "17964\n"},
		{strings.Repeat("\n", most), strings.Repeat("bad\n", most)},
		{strings.Repeat("bits a\n", most/7) + "bits", strings.Repeat("6\n", most/7) + "bad\n"},
		{xs(most), "bad\n"},
		{strings.Repeat("\x00", most), "bad\n"},
		{strings.Repeat("\xff", most), "bad\n"},
		{strings.Repeat(" ", most), "bad\n"},
	} {
		if len(c.text) != most {
			t.Fatalf("%s has %d bytes", short(c.text), len(c.text))
		}
		checkRun(t, c.text, c.want)
		for _, more := range []string{"\n", "x", " ", "\x00", "\nbits a\n", xs(most), strings.Repeat("bits a\n", 100_000)} {
			checkRun(t, c.text+more, "too long\n")
			checkRun(t, more+c.text, "too long\n")
		}
	}
}

// Texts are counted by bytes, not by what stands for one letter.
func TestTooLongByBytes(t *testing.T) {
	checkRun(t, "bits "+strings.Repeat("ä", (most-5)/2), "26946\n")
	checkRun(t, "bits "+strings.Repeat("ä", (most-5)/2)+"aa", "too long\n")
	checkRun(t, "bits "+strings.Repeat("ä", most/2), "too long\n")
}

func TestLines(t *testing.T) {
	for _, c := range []struct{ text, want string }{
		{"", ""},
		{"\n", "bad\n"},
		{"\n\n", "bad\nbad\n"},
		{"\n\n\n", "bad\nbad\nbad\n"},
		{" ", "bad\n"},
		{" \n", "bad\n"},
		{"\n ", "bad\nbad\n"},
		{"bits a", "6\n"},
		{"bits a\n", "6\n"},
		{"bits a\n\n", "6\nbad\n"},
		{"\nbits a", "bad\n6\n"},
		{"bits a\nbits aa", "6\n12\n"},
		{"bits a\nbits aa\n", "6\n12\n"},
		{"bits a\n\nbits aa", "6\nbad\n12\n"},
		{"bits a\n\n\nbits aa\n", "6\nbad\nbad\n12\n"},
		{"bits a\nb", "6\nbad\n"},
		{"code ", "\n"},
		{"code \n", "\n"},
		{"code \n\ncode ", "\nbad\n\n"},
		{"bits \nbits ", "0\n0\n"},
	} {
		checkRun(t, c.text, c.want)
	}
}

// Nothing but byte 10 cuts a text: all others are of a word, but for the blank.
func TestNoOtherEnd(t *testing.T) {
	for c := range 256 {
		one := string([]byte{byte(c)})
		if one == "\n" || one == " " {
			continue
		}
		bits := "9\n"
		if strings.Contains("etaoinshrdlucmfwypvbgkxjqz-/.:0", one) {
			bits = "6\n"
		}
		checkRun(t, "bits "+one, bits)
		checkRun(t, "bits "+one+"\n", bits)
		checkRun(t, "bits"+one+"a", "bad\n")
		checkRun(t, one+"bits a\nbits a\n", "bad\n6\n")
		if c < '0' || c > '9' {
			checkRun(t, "take 1"+one+"\n", "bad\n")
		}
	}
	checkRun(t, "bits a\r\nbits a\r\n", "15\n15\n")
	checkRun(t, "take 1\r\ntake 1\r\n", "bad\nbad\n")
	checkRun(t, "bits a\u2028", "33\n")
	checkRun(t, "bits\u00a0a\nbits\ta\n", "bad\nbad\n")
}
