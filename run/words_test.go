package run

import (
	"strings"
	"testing"
)

func TestRight(t *testing.T) { alone(t, right()...) }

// The words of each row, one more and one less, and blanks where none may be.
func TestHowManyWords(t *testing.T) {
	for _, s := range right() {
		words := strings.Split(s.line, " ")
		bad := []string{
			s.line + " ", s.line + "  ", s.line + " 1", s.line + " 0a", s.line + " x", s.line + " 1 1",
			" " + s.line, "  " + s.line, "x " + s.line, s.line + " " + s.line,
			words[0], words[0] + strings.Repeat(" ", len(words)), words[0] + strings.Repeat(" ", 20),
			strings.Join(words, "  "), strings.Join(words, "\t"), strings.Join(words, "\r"), strings.Join(words, ""), strings.Join(words, ","),
			strings.Join(words[1:], " "),
		}
		for n := 1; n < len(words); n++ {
			bad = append(bad, strings.Join(words[:n], " "))
			bad = append(bad, strings.Join(words[:n], " ")+"  "+strings.Join(words[n:], " "))
			bad = append(bad, strings.Join(words[:n], " ")+strings.Join(words[n:], " "))
		}
		for _, line := range bad {
			play(t, said{line, "bad"}, s)
		}
	}
}

// A word that is empty counts, in the midst and at the end.
func TestEmptyWords(t *testing.T) {
	alone(t,
		said{"put  5 0", "bad"}, said{"put 10  0", "bad"}, said{"put 10 5 ", "bad"}, said{"put   ", "bad"},
		said{"get  5", "ErrShort"}, said{"get  9", "ErrRange"}, said{"get 0a ", "bad"}, said{"get  ", "bad"},
		said{"code ", ""}, said{"code  ", "bad"}, said{"code", "bad"},
		said{"bits ", "0"}, said{"bits  ", "bad"}, said{"bits", "bad"},
		said{"say  text", "400083040581"}, said{"say type ", "4800"}, said{"say  ", "400000"}, said{"say ", "bad"}, said{"say   ", "bad"},
		said{"hear ", "-"}, said{"hear  ", "bad"}, said{"hear", "bad"},
		said{"frame ", "ErrShort"}, said{"frame  ", "bad"}, said{"frame", "bad"},
		said{"take ", "bad"}, said{"give ", "bad"},
		said{"ask  0 5", "yes"}, said{"ask k  5", "bad"}, said{"ask k 0 ", "bad"}, said{"ask  0 ", "bad"}, said{"ask   ", "bad"},
		said{"route  /a one", "ok"}, said{"route h  one", "ErrSyntax"}, said{"route h /a ", "ErrSyntax"}, said{"route   ", "ErrSyntax"}, said{"route  ", "bad"}, said{"route    ", "bad"},
		said{"find  /a", "ErrNone"}, said{"find h ", "ErrNone"}, said{"find  ", "ErrNone"}, said{"find ", "bad"}, said{"find   ", "bad"},
	)
}

// A first word that is none, with as many words behind it as any row has.
func TestFirstWord(t *testing.T) {
	first := []string{"", "fly", "x", "ok", "bad", "N", "HEX", "WORD", "-", "*", "pu", "pput", "putt", "put,", "put\r", "\tput", "ge", "codes", "bit", "sayy", "heard", "frames", "takes", "gives", "asks", "routes", "finds", "too", "\x00", "\xff"}
	behind := []string{"", " ", " a", " 0a", " 1", " 0a 5", " 1 1", " a a", " 1 1 1", " k 0 1", " h /a one", " h /a one two"}
	for _, s := range right() {
		word, _, _ := strings.Cut(s.line, " ")
		first = append(first, strings.ToUpper(word), strings.ToUpper(word[:1])+word[1:], word[:len(word)-1]+strings.ToUpper(word[len(word)-1:]), word+word, word[1:], "("+word+")")
	}
	for _, word := range first {
		for _, rest := range behind {
			checkRun(t, word+rest+"\n", "bad\n")
			checkRun(t, word+rest+"\nbits a\n", "bad\n6\n")
		}
	}
}

// eachAt hands over lines that have a word of some form, with that word left open.
func eachAt(form string, ask func(ahead, behind string)) {
	for _, line := range []string{"put N 5 0", "put 10 N 0", "put 10 5 N", "get HEX 5", "get 0a N", "hear HEX", "frame HEX", "take N", "give N", "ask k N 1", "ask k 0 N"} {
		if ahead, behind, ok := strings.Cut(line, form); ok {
			ask(ahead, behind)
		}
	}
}

func TestBadNumbers(t *testing.T) {
	eachAt("N", func(ahead, behind string) {
		for _, n := range []string{
			"", "-", "+", "--", "-0", "+0", "+1", "--1", "-+1", "1-", "1+", "00", "01", "-00", "-01", "007", "00000001", "-00000001",
			"1000000000", "-1000000000", "1234567890", "-1234567890", "0000000001", "0000000000", "-0000000000", "2147483647", "9223372036854775807", "-9223372036854775808", "9223372036854775808", "18446744073709551617", strings.Repeat("9", 400),
			"a", "x", "N", "1a", "a1", "1x1", "0x1", "0b1", "0o1", "1_0", "1.0", "1.", ".1", "1,0", "1e1", "1E1", "\t1", "1\t", "1\r", "\x001", "1\x00", "٣", "１", "−1", "½", "\xff", "inf", "NaN", "true", "\"1\"", "'1'", "(1)", "*",
		} {
			checkRun(t, ahead+n+behind, "bad\n")
		}
	})
}

// What may be a number, and is told as none of those that it may be: an error, not bad.
func TestNumbers(t *testing.T) {
	alone(t,
		said{"put 0 5 0", "00"}, said{"put 9 5 0", "09"}, said{"put 10 5 0", "0a"}, said{"put 100 5 0", "1f45"}, said{"put 123456789 5 0", "1ff699ef3a"}, said{"put 999999999 5 0", "1fe093ebdc03"}, said{"put 100000000 5 0", "1fe1c1d72f"},
		said{"put -1 5 0", "ErrRange"}, said{"put -9 5 0", "ErrRange"}, said{"put -10 5 0", "ErrRange"}, said{"put -999999999 5 0", "ErrRange"}, said{"put -100000000 5 0", "ErrRange"},
		said{"put 0 -1 0", "ErrRange"}, said{"put 0 0 0", "ErrRange"}, said{"put 0 999999999 0", "ErrRange"}, said{"put 0 -999999999 0", "ErrRange"},
		said{"put 0 5 -1", "ErrRange"}, said{"put 0 5 -999999999", "ErrRange"}, said{"put 0 5 999999999", "ErrRange"},
		said{"get 0a 999999999", "ErrRange"}, said{"get 0a -999999999", "ErrRange"}, said{"get 0a -1", "ErrRange"}, said{"get 0a 0", "ErrRange"},
		said{"take 0", "100"}, said{"take -1", "ErrRange"}, said{"take -999999999", "ErrRange"}, said{"take 999999999", "ErrFlow"},
		said{"give 0", "ErrRange"}, said{"give -1", "ErrRange"}, said{"give -999999999", "ErrRange"}, said{"give 999999999", "1000000099"},
		said{"ask k 0 1", "yes"}, said{"ask k -1 1", "ErrRange"}, said{"ask k 999999999 1", "ErrRange"}, said{"ask k -999999999 1", "ErrRange"},
		said{"ask k 0 0", "ErrRange"}, said{"ask k 0 -1", "ErrRange"}, said{"ask k 0 999999999", "ErrRange"}, said{"ask k 0 -999999999", "ErrRange"},
	)
}

func TestBadBytes(t *testing.T) {
	eachAt("HEX", func(ahead, behind string) {
		for _, s := range []string{
			"0", "a", "000", "0a0", "12345", strings.Repeat("0", 1001),
			"0A", "A0", "AA", "0F", "F0", "aF", "Fa", "0a0A", "0A0a", "A", "0aA",
			"0g", "g0", "gg", "0/", "/0", "0:", ":0", "0`", "`0", "0@", "@0", "0G", "G0", "-1", "+1", "1-", "0x", "x0", "0x0a", "zz", "..", "0a,0a", "0a-0", "0a:0", "\t0", "0\t", "0\r", "\x000", "0\x00", "\xff0", "\xff\xff", "ä", "0ä0", "００", "N", "HEX", "--",
		} {
			checkRun(t, ahead+s+behind, "bad\n")
		}
	})
}

// Each of the 256 bytes is read, and written, and no two signs but these are one.
func TestAllBytes(t *testing.T) {
	const digits = "0123456789abcdef"
	for a := range 256 {
		for b := range 256 {
			word := string([]byte{byte(a), byte(b)})
			if strings.ContainsAny(word, " \n") {
				continue
			}
			high, low := strings.IndexByte(digits, byte(a)), strings.IndexByte(digits, byte(b))
			line := said{"hear 00017801" + word, "bad"}
			if high >= 0 && low >= 0 {
				line.answer = "x=" + string([]byte{byte(16*high + low)})
			}
			if high == 0 && low == 10 { // a line end in an answer
				checkRun(t, line.line, "x=\n\n")
				continue
			}
			checkRun(t, line.line, line.answer+"\n")
		}
	}
	// A byte that is no sign of its own is nine bits: a 1, and it.
	for c := range 256 {
		if c == ' ' || c == '\n' || strings.IndexByte("etaoinshrdlucmfwypvbgkxjqz-/.:0", byte(c)) >= 0 {
			continue
		}
		first, second := 128+c/2, c%2*128+127
		hex := string([]byte{digits[first/16], digits[first%16], digits[second/16], digits[second%16]})
		checkRun(t, "code "+string([]byte{byte(c)}), hex+"\n")
	}
}
