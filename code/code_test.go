package code

import (
	"bytes"
	"strings"
	"testing"

	"tollgate/api"
	"tollgate/plain"
)

// theCommon bytes, in the order of their numbers, as the chapter has them.
const theCommon = "etaoinshrdlucmfwypvbgkxjqz-/.:0" + " "

// packed makes bytes of bits that are written as digits; blanks between them do not count.
func packed(t *testing.T, digits string) (b []byte) {
	t.Helper()
	digits = strings.ReplaceAll(digits, " ", "")
	if len(digits)%8 != 0 {
		t.Fatalf("%d bits are no whole bytes: %s", len(digits), digits)
	}
	for i := 0; i < len(digits); i += 8 {
		c := 0
		for _, d := range digits[i : i+8] {
			c = c<<1 | int(d-'0')
		}
		b = append(b, byte(c))
	}
	return b
}

// digitsOf tells the bits of a number, the high ones first.
func digitsOf(n, size int) string {
	s := ""
	for i := size - 1; i >= 0; i-- {
		s += string(rune('0' + n>>i&1))
	}
	return s
}

// spelled tells the bits of a text, without what fills them up.
func spelled(s string) string {
	out := ""
	for i := 0; i < len(s); i++ {
		if n := strings.IndexByte(theCommon, s[i]); n >= 0 {
			out += "0" + digitsOf(n, 5)
		} else {
			out += "1" + digitsOf(int(s[i]), 8)
		}
	}
	return out
}

// filledUp adds 1 bits up to whole bytes.
func filledUp(digits string) string {
	for len(digits)%8 != 0 {
		digits += "1"
	}
	return digits
}

func checkDecode(t *testing.T, b []byte, want string, told api.Errno) {
	t.Helper()
	s, err := Decode(b)
	if s != want || plain.Told(err) != told {
		t.Errorf("Decode(%08b): got %q %v, want %q %v", b, s, err, want, told)
	}
}

// checkText: a text has just these bytes and bits, and is read of them.
func checkText(t *testing.T, s string, b []byte, bits int) {
	t.Helper()
	if got := Encode(s); !bytes.Equal(got, b) {
		t.Errorf("Encode(%q): got %08b, want %08b", s, got, b)
	}
	if got := Bits(s); got != bits {
		t.Errorf("Bits(%q): got %d, want %d", s, got, bits)
	}
	checkDecode(t, b, s, api.OK)
}

func TestTexts(t *testing.T) {
	for _, c := range []struct {
		s, digits string
		bits      int
	}{
		{"", "", 0},
		{"e", "000000 11", 6},
		{" ", "011111 11", 6},
		{"0", "011110 11", 6},
		{"1", "100110001 1111111", 9},
		{"E", "101000101 1111111", 9},
		{"\x00", "100000000 1111111", 9},
		{"\xff", "111111111 1111111", 9},
		{"ee", "000000 000000 1111", 12},
		{"  ", "011111 011111 1111", 12},
		{"tea", "000001 000000 000010 111111", 18},
		{"A-b", "101000001 011010 010011 111", 21},
		{"x1", "010110 100110001 1", 15},
		{"1x", "100110001 010110 1", 15},
		{"eeee", "000000 000000 000000 000000", 24},
		{"    ", "011111 011111 011111 011111", 24},
		{"\xff\xff", "111111111 111111111 111111", 18},
		{"\xc3\xa9", "111000011 110101001 111111", 18},
	} {
		checkText(t, c.s, packed(t, c.digits), c.bits)
	}
	checkText(t, "the toll gate", []byte{4, 112, 31, 4, 50, 138, 125, 64, 129, 3}, 78)
}

// TestEachByte: the 32 have few bits, all others many, each one its own.
func TestEachByte(t *testing.T) {
	few := 0
	for c := range 256 {
		s := string([]byte{byte(c)})
		digits := spelled(s)
		checkText(t, s, packed(t, filledUp(digits)), len(digits))
		if Bits(s) == 6 {
			few++
		} else if Bits(s) != 9 {
			t.Errorf("Bits(%q): got %d", s, Bits(s))
		}
	}
	if few != 32 {
		t.Errorf("%d bytes have few bits", few)
	}
	for n := range 32 {
		checkDecode(t, packed(t, "0"+digitsOf(n, 5)+"11"), theCommon[n:n+1], api.OK)
	}
}

// TestPairs: whatever stands ahead of a byte, it is read as it was.
func TestPairs(t *testing.T) {
	for c := range 256 {
		for d := range 256 {
			s := string([]byte{byte(c), byte(d)})
			digits := spelled(s)
			checkText(t, s, packed(t, filledUp(digits)), len(digits))
		}
	}
}

// TestFilling: texts that leave each number of bits, from 0 to 7, to be filled up.
func TestFilling(t *testing.T) {
	seen := [8]int{}
	for few := range 9 {
		for many := range 9 {
			for _, s := range []string{
				strings.Repeat("z", few) + strings.Repeat("Z", many),
				strings.Repeat("\xff", many) + strings.Repeat(" ", few),
				strings.Repeat("\x00", many) + strings.Repeat("e", few),
			} {
				bits := 6*few + 9*many
				checkText(t, s, packed(t, filledUp(spelled(s))), bits)
				seen[(8-bits%8)%8]++
			}
		}
	}
	for n, times := range seen {
		if times == 0 {
			t.Errorf("no text was filled up by %d bits", n)
		}
	}
}

func TestLong(t *testing.T) {
	all := make([]byte, 256)
	for i := range all {
		all[i] = byte(i)
	}
	s := strings.Repeat(string(all), 40)
	digits := spelled(s)
	checkText(t, s, packed(t, filledUp(digits)), len(digits))
	if n := 40 * (32*6 + 224*9); len(digits) != n {
		t.Errorf("%d bits, want %d", len(digits), n)
	}
}

// TestMuchLeft: more than 7 bits that are no byte do not fill up, though all are 1.
func TestMuchLeft(t *testing.T) {
	for _, ahead := range []string{"", "eeee", "    ", "1e1", "11111111", "\xff\xff "} {
		digits := spelled(ahead)
		checkDecode(t, packed(t, digits), ahead, api.OK)
		checkDecode(t, packed(t, digits+"11111111"), "", api.ErrSyntax)
		for i := range 8 {
			left := []byte("11111111")
			left[i] = '0'
			if i > 0 {
				checkDecode(t, packed(t, digits+string(left)), "", api.ErrSyntax)
			}
		}
		checkDecode(t, packed(t, digits+"11111111 11111111"), ahead+"\xff", api.OK)
	}
	// Nine 1 bits are a byte: a text that is filled up goes on if more of them follow.
	checkDecode(t, packed(t, "000000 11"), "e", api.OK)
	checkDecode(t, packed(t, "000000 11 11111111"), "e\xff", api.OK)
	checkDecode(t, packed(t, "000000 11 11111111 11111111"), "e\xff\xff", api.OK)
}

// TestZeroLeft: a 0 bit among those that are left.
func TestZeroLeft(t *testing.T) {
	for _, ahead := range []string{"", "e", "ee", "tea", "1", "1e", "11", "111", "1111", "11111", "111111"} {
		digits := spelled(ahead)
		size := (8 - len(digits)%8) % 8
		for n := range 1 << size {
			left := digitsOf(n, size)
			b := packed(t, digits+left)
			switch {
			case n == 1<<size-1:
				checkDecode(t, b, ahead, api.OK)
			case size >= 6 && left[0] == '0':
				more := theCommon[n>>(size-6)&31]
				if rest := left[6:]; strings.Contains(rest, "0") {
					checkDecode(t, b, "", api.ErrSyntax)
				} else {
					checkDecode(t, b, ahead+string(more), api.OK)
				}
			default:
				checkDecode(t, b, "", api.ErrSyntax)
			}
		}
	}
}

// TestLongWay: a byte of the 32 is not spelled by eight bits.
func TestLongWay(t *testing.T) {
	for i := range len(theCommon) {
		long := "1" + digitsOf(int(theCommon[i]), 8)
		for _, ahead := range []string{"", "e", "1", "Q "} {
			for _, behind := range []string{"", "e", "1"} {
				checkDecode(t, packed(t, filledUp(spelled(ahead)+long+spelled(behind))), "", api.ErrSyntax)
			}
		}
	}
}

// TestAllShort: of all lists of up to two bytes just those are read that a text has.
func TestAllShort(t *testing.T) {
	check := func(b []byte) {
		s, err := Decode(b)
		switch plain.Told(err) {
		case api.OK:
			if again := Encode(s); !bytes.Equal(again, b) {
				t.Fatalf("Decode(%08b) is %q, and that is %08b", b, s, again)
			}
		case api.ErrSyntax:
			if s != "" {
				t.Fatalf("Decode(%08b): %q with an error", b, s)
			}
		default:
			t.Fatalf("Decode(%08b): %v", b, err)
		}
	}
	check(nil)
	for c := range 256 {
		check([]byte{byte(c)})
		for d := range 256 {
			check([]byte{byte(c), byte(d)})
			check([]byte{0, byte(c), byte(d)})
			check([]byte{byte(c), 255, byte(d)})
		}
	}
}

// TestEmpty: nil and an empty list are one.
func TestEmpty(t *testing.T) {
	checkDecode(t, nil, "", api.OK)
	checkDecode(t, []byte{}, "", api.OK)
	if b := Encode(""); len(b) != 0 {
		t.Errorf("no text is %v", b)
	}
}

// TestBehind: what lies behind a list's length does not count, and nothing is written.
func TestBehind(t *testing.T) {
	all := Encode("the toll gate")
	kept := bytes.Clone(all)
	checkDecode(t, all[:3], "the ", api.OK)
	checkDecode(t, all[:1], "", api.ErrSyntax)
	checkDecode(t, all, "the toll gate", api.OK)
	if !bytes.Equal(all, kept) {
		t.Errorf("written into: %v", all)
	}
}

// TestFresh: two answers share no memory, and a text does not hang on the bytes that it was read of.
func TestFresh(t *testing.T) {
	a := Encode("a/b:c")
	kept := bytes.Clone(a)
	s, err := Decode(a)
	clear(a)
	if s != "a/b:c" || err != nil {
		t.Errorf("the text is now %q %v", s, err)
	}
	if b := Encode("a/b:c"); !bytes.Equal(b, kept) {
		t.Errorf("again: %v, want %v", b, kept)
	}
}
