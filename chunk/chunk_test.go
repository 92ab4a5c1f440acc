package chunk

import (
	"bytes"
	"fmt"
	"math"
	"slices"
	"strings"
	"testing"

	"tollgate/api"
	"tollgate/plain"
)

const most = api.MaxBody

// wildSizes are none that a size may be.
var wildSizes = []int{math.MinInt, math.MinInt + 1, -most, -2, -1, 0, most + 1, most + 2, math.MaxUint16 + 2, math.MaxInt32, math.MaxUint32 + 2, math.MaxInt - 1, math.MaxInt}

// some bytes, all values among them, that are not alike from piece to piece.
func some(n int) []byte {
	b := make([]byte, n)
	for i := range b {
		b[i] = byte(i*7 + i/251)
	}
	return b
}

// written is a body in pieces of sizes that are told one by one; it is not written by the program.
func written(body []byte, sizes ...int) string {
	var s strings.Builder
	for _, n := range sizes {
		fmt.Fprintf(&s, "%x\r\n%s\r\n", n, body[:n])
		body = body[n:]
	}
	return s.String() + "0\r\n\r\n"
}

// each size of a body in pieces of one size.
func each(n, size int) (l []int) {
	for ; n > size; n -= size {
		l = append(l, size)
	}
	if n > 0 {
		l = append(l, n)
	}
	return l
}

func short(s string) string {
	if len(s) > 60 {
		return fmt.Sprintf("%q and %d more", s[:60], len(s)-60)
	}
	return fmt.Sprintf("%q", s)
}

func checkEncode(t *testing.T, body []byte, size int, want string) {
	t.Helper()
	b, err := Encode(body, size)
	if err != nil || string(b) != want {
		t.Errorf("Encode of %d bytes by %d: got %s %v, want %s", len(body), size, short(string(b)), err, short(want))
	}
}

func refuseEncode(t *testing.T, body []byte, size int, want api.Errno) {
	t.Helper()
	if b, err := Encode(body, size); b != nil || plain.Told(err) != want {
		t.Errorf("Encode of %d bytes by %d: got %d bytes, %v, want %v", len(body), size, len(b), err, want)
	}
}

func checkDecode(t *testing.T, s string, body []byte, used int) {
	t.Helper()
	got, n, err := Decode([]byte(s))
	if err != nil || n != used || !bytes.Equal(got, body) {
		t.Errorf("Decode of %s: got %s %d %v, want %s %d", short(s), short(string(got)), n, err, short(string(body)), used)
	}
}

func refuse(t *testing.T, s string, want api.Errno) {
	t.Helper()
	if got, n, err := Decode([]byte(s)); got != nil || n != 0 || plain.Told(err) != want {
		t.Errorf("Decode of %s: got %s %d %v, want %v", short(s), short(string(got)), n, err, want)
	}
}

func TestEncode(t *testing.T) {
	for _, c := range []struct {
		body string
		size int
		want string
	}{
		{"", 1, "0\r\n\r\n"},
		{"", most, "0\r\n\r\n"},
		{"a", 1, "1\r\na\r\n0\r\n\r\n"},
		{"a", 2, "1\r\na\r\n0\r\n\r\n"},
		{"abc", 3, "3\r\nabc\r\n0\r\n\r\n"},
		{"abc", 4, "3\r\nabc\r\n0\r\n\r\n"},
		{"abc", most, "3\r\nabc\r\n0\r\n\r\n"},
		{"abc", 1, "1\r\na\r\n1\r\nb\r\n1\r\nc\r\n0\r\n\r\n"},
		{"abc", 2, "2\r\nab\r\n1\r\nc\r\n0\r\n\r\n"},
		{"abcdef", 3, "3\r\nabc\r\n3\r\ndef\r\n0\r\n\r\n"},
		{"abcdefgh", 3, "3\r\nabc\r\n3\r\ndef\r\n2\r\ngh\r\n0\r\n\r\n"},
		{"\r\n0\r\n\r\n", 4, "4\r\n\r\n0\r\r\n3\r\n\n\r\n\r\n0\r\n\r\n"},
		{"\x00\xff\x00", 2, "2\r\n\x00\xff\r\n1\r\n\x00\r\n0\r\n\r\n"},
	} {
		checkEncode(t, []byte(c.body), c.size, c.want)
		checkDecode(t, c.want, []byte(c.body), len(c.want))
	}
	checkEncode(t, nil, 1, "0\r\n\r\n")
	checkEncode(t, nil, most, "0\r\n\r\n")
}

func TestEncodeDigits(t *testing.T) {
	for _, c := range []struct {
		n    int
		want string
	}{
		{1, "1"}, {9, "9"}, {10, "a"}, {15, "f"}, {16, "10"}, {17, "11"}, {160, "a0"}, {171, "ab"}, {255, "ff"}, {256, "100"},
		{3567, "def"}, {4095, "fff"}, {4096, "1000"}, {7999, "1f3f"}, {most, "1f40"},
	} {
		body := some(c.n)
		want := c.want + "\r\n" + string(body) + "\r\n0\r\n\r\n"
		checkEncode(t, body, c.n, want)
		checkEncode(t, body, most, want)
		checkDecode(t, want, body, len(want))
	}
}

func TestEncodeManySizes(t *testing.T) {
	for _, n := range []int{0, 1, 2, 15, 16, 17, 255, 256, 257, 1000, most - 1, most} {
		body := some(n)
		for _, size := range []int{1, 2, 3, 9, 10, 15, 16, 17, 255, 256, 257, n/2 + 1, max(n-1, 1), max(n, 1), min(n+1, most), most - 1, most} {
			want := written(body, each(n, size)...)
			checkEncode(t, body, size, want)
			checkDecode(t, want, body, len(want))
		}
	}
}

func TestEncodeRange(t *testing.T) {
	for _, size := range wildSizes {
		refuseEncode(t, nil, size, api.ErrRange)
		refuseEncode(t, []byte("abc"), size, api.ErrRange)
		refuseEncode(t, some(most), size, api.ErrRange)
		// It is told ahead of ErrFull.
		refuseEncode(t, some(most+1), size, api.ErrRange)
	}
}

func TestEncodeFull(t *testing.T) {
	for _, size := range []int{1, 2, 4000, most - 1, most} {
		checkEncode(t, some(most), size, written(some(most), each(most, size)...))
		for _, n := range []int{most + 1, most + 2, 2 * most, 1 << 16, 1 << 20} {
			refuseEncode(t, make([]byte, n), size, api.ErrFull)
		}
	}
}

func TestDecodeSizesThatDiffer(t *testing.T) {
	for _, sizes := range [][]int{
		{1, 2}, {2, 1}, {1, 16, 1}, {16, 15, 17}, {255, 1, 256, 2}, {1, most - 1}, {most - 1, 1}, {4000, 4000}, {4096, 3904}, {1, 2, 3, 4, 5, 6, 7, 8, 9, 10, 11, 12, 13, 14, 15, 16, 17},
	} {
		n := 0
		for _, k := range sizes {
			n += k
		}
		body := some(n)
		s := written(body, sizes...)
		checkDecode(t, s, body, len(s))
	}
}

// What stands behind the last piece is not asked.
func TestDecodeBehind(t *testing.T) {
	for _, body := range []string{"", "a", "abc", "0\r\n\r\n", string(some(300)), string(some(most))} {
		b, err := Encode([]byte(body), 7)
		if err != nil {
			t.Fatal(err)
		}
		for _, behind := range []string{"\x00", "\r", "\n", "\r\n", "0", "0\r\n\r\n", "1\r\nx\r\n0\r\n\r\n", "ffffffff", "X", string(some(30000)), string(b)} {
			checkDecode(t, string(b)+behind, []byte(body), len(b))
		}
	}
}

// Bodies one behind the other are read one by one.
func TestDecodeOneByOne(t *testing.T) {
	var all []byte
	for n := range 90 {
		b, err := Encode(some(n*n%(most+1)), n+1)
		if err != nil {
			t.Fatal(err)
		}
		all = append(all, b...)
	}
	for n := range 90 {
		body, used, err := Decode(all)
		if err != nil || !bytes.Equal(body, some(n*n%(most+1))) {
			t.Fatalf("Decode of body %d: got %d bytes, %d %v", n, len(body), used, err)
		}
		all = all[used:]
	}
	if len(all) != 0 {
		t.Errorf("%d bytes are left", len(all))
	}
}

func TestDecodeShort(t *testing.T) {
	for _, s := range []string{
		written(nil), written(some(1), 1), written(some(30), 16, 1, 13), written(some(300), 255, 45), written(some(20), each(20, 1)...),
		written(some(most), most), written(some(most), 4096, 3904), written([]byte("\r\n0\r\n\r\n"), 3, 4),
	} {
		for n := range len(s) {
			refuse(t, s[:n], api.ErrShort)
		}
		checkDecode(t, s, body(t, s), len(s))
	}
	refuse(t, "", api.ErrShort)
	if got, n, err := Decode(nil); got != nil || n != 0 || plain.Told(err) != api.ErrShort {
		t.Errorf("Decode of nil: got %q %d %v, want ErrShort", got, n, err)
	}
}

// body of pieces that are whole, by the model.
func body(t *testing.T, s string) []byte {
	t.Helper()
	m := heard(s)
	if m.told != api.OK {
		t.Fatalf("the model tells %v of %s", m.told, short(s))
	}
	return m.body
}

// Each byte in the place of a size's first, also behind pieces that are right.
func TestDecodeFirstByte(t *testing.T) {
	for _, ahead := range []string{"", "1\r\na\r\n", "3\r\nabc\r\n2\r\nde\r\n"} {
		for c := range 256 {
			want := api.ErrSyntax
			if strings.IndexByte("0123456789abcdef", byte(c)) >= 0 {
				want = api.ErrShort
			}
			refuse(t, ahead+string([]byte{byte(c)}), want)
		}
		refuse(t, ahead+"\r\n", api.ErrSyntax)
		refuse(t, ahead+"-1\r\n", api.ErrSyntax)
		refuse(t, ahead+"+1\r\na\r\n0\r\n\r\n", api.ErrSyntax)
		refuse(t, ahead+" 1\r\na\r\n0\r\n\r\n", api.ErrSyntax)
		refuse(t, ahead+"0x1\r\na\r\n0\r\n\r\n", api.ErrSyntax)
	}
}

// Each byte behind a digit: of 0 no digit may follow, of any other a small one or a line end.
func TestDecodeSecondByte(t *testing.T) {
	for c := range 256 {
		second := string([]byte{byte(c)})
		digit := strings.Contains("0123456789abcdef", second)
		for _, first := range []string{"0", "1", "9", "a", "f"} {
			want := api.ErrSyntax
			if c == 13 || digit && first != "0" {
				want = api.ErrShort
			}
			refuse(t, first+second, want)
			refuse(t, "2\r\nxy\r\n"+first+second, want)
		}
	}
}

func TestDecodeGreatLetters(t *testing.T) {
	for _, c := range "ABCDEFG" {
		n := int(c-'A') + 10
		refuse(t, string(c)+"\r\n"+strings.Repeat("x", n)+"\r\n0\r\n\r\n", api.ErrSyntax)
		refuse(t, "1"+string(c)+"\r\n"+strings.Repeat("x", n+16)+"\r\n0\r\n\r\n", api.ErrSyntax)
		refuse(t, "1\r\nx\r\n"+string(c), api.ErrSyntax)
	}
}

func TestDecodeNeedlessZero(t *testing.T) {
	for _, s := range []string{"00", "01", "0a", "00\r\n\r\n", "01\r\na\r\n0\r\n\r\n", "0f", "000000001\r\na\r\n0\r\n\r\n", "0000000000000000000000000"} {
		refuse(t, s, api.ErrSyntax)
		refuse(t, "1\r\na\r\n"+s, api.ErrSyntax)
		refuse(t, written(some(most), most)[:most+8]+s, api.ErrSyntax)
	}
	checkDecode(t, "10\r\n0123456789abcdef\r\n0\r\n\r\n", []byte("0123456789abcdef"), 27)
}

// A wrong byte in the place of each byte that is no byte of a piece, whatever stands behind it.
func TestDecodeWrongLineEnds(t *testing.T) {
	const s = "2\r\nxy\r\n10\r\n0123456789abcdef\r\n0\r\n\r\n"
	for _, at := range []int{1, 2, 5, 6, 9, 10, 27, 28, 30, 31, 32, 33} {
		for c := range 256 {
			behindDigit := at == 1 || at == 9
			if byte(c) == s[at] || behindDigit && strings.IndexByte("0123456789abcdef", byte(c)) >= 0 {
				continue
			}
			wrong := s[:at] + string([]byte{byte(c)})
			refuse(t, wrong, api.ErrSyntax)
			refuse(t, wrong+s[at+1:], api.ErrSyntax)
		}
		refuse(t, s[:at]+s[at+1:]+"x", api.ErrSyntax)
	}
}

func TestDecodeWrongForms(t *testing.T) {
	for _, s := range []string{
		"1\na\n0\n\n", "1\ra\r0\r\r", "1\n\ra", "1\r\na\n0\r\n\r\n", "1 \r\na\r\n0\r\n\r\n", "1;x\r\na\r\n0\r\n\r\n", "1\r\r\na", "1\r\n\r\n0\r\n\r\n",
		"0\n", "0\r\r", "0\r\n0", "0\r\n\n", "0\r\n\r\r", "0\r\nx: y\r\n\r\n", "2\r\nabc\r\n0\r\n\r\n", "3\r\nab\r\n0\r\n\r\n",
	} {
		refuse(t, s, api.ErrSyntax)
	}
	// A piece of fewer bytes than its size takes those behind it, whatever they are.
	checkDecode(t, "5\r\nab\r\n0\r\n0\r\n\r\n", []byte("ab\r\n0"), 15)
}

func TestDecodeFullByItself(t *testing.T) {
	checkDecode(t, written(some(most), most), some(most), most+8+5)
	refuse(t, "1f40", api.ErrShort)
	refuse(t, "1f40\r\n", api.ErrShort)
	refuse(t, "1f4", api.ErrShort)
	refuse(t, "fff", api.ErrShort)
	for _, digits := range []string{
		"1f41", "1f4f", "1f50", "2000", "8000", "ffff", "10000", "1f400", "fff0", "80000000", "ffffffff", "100000000", "100000001", "7fffffffffffffff", "8000000000000000",
		"ffffffffffffffff", "10000000000000000", "10000000000000001", "fffffffffffffffff", "1" + strings.Repeat("0", 31) + "1", strings.Repeat("f", 1<<20), "1" + strings.Repeat("0", 1<<20),
	} {
		for _, behind := range []string{"", "\r", "\r\n", "\r\nabc", "\r\n" + strings.Repeat("x", most+1) + "\r\n0\r\n\r\n", "X", "A", "\n"} {
			refuse(t, digits+behind, api.ErrFull)
			refuse(t, "1\r\nx\r\n"+digits+behind, api.ErrFull)
		}
	}
}

func TestDecodeFullWithPiecesAhead(t *testing.T) {
	for _, ahead := range [][]int{{1}, {most}, {most - 1}, {4000, 3999}, {4000, 4000}, {4096, 3904 - 16}, each(most, 16), each(most, 1), each(most-255, 100)} {
		n := 0
		for _, k := range ahead {
			n += k
		}
		s := strings.TrimSuffix(written(some(n), ahead...), "0\r\n\r\n")
		room := most - n
		for _, over := range []int{room + 1, room + 2, room + 16, most, most + 1, 16*room + 16} {
			digits := fmt.Sprintf("%x", over)
			refuse(t, s+digits, api.ErrFull)
			refuse(t, s+digits+"\r\n", api.ErrFull)
			refuse(t, s+digits+"\r\nx", api.ErrFull)
		}
		if room == 0 {
			checkDecode(t, s+"0\r\n\r\n", some(n), len(s)+5)
			continue
		}
		refuse(t, fmt.Sprintf("%s%x", s, room), api.ErrShort)
		whole := written(some(most), append(slices.Clone(ahead), room)...)
		checkDecode(t, whole, some(most), len(whole))
	}
}

func TestDecodeWhichFault(t *testing.T) {
	full := strings.TrimSuffix(written(some(most), most), "0\r\n\r\n")
	for _, c := range []struct {
		s    string
		want api.Errno
	}{
		{"ffffX", api.ErrFull},
		{"fffX", api.ErrSyntax},
		{"fffXffff", api.ErrSyntax},
		{"0ffff", api.ErrSyntax},
		{"Fffff", api.ErrSyntax},
		{"1f4A1", api.ErrSyntax},
		{"1f41A", api.ErrFull},
		{"1\r\naX" + "ffff\r\n", api.ErrSyntax},
		{"1\r\na\r\nffff\r\nX", api.ErrFull},
		{"2\r\na", api.ErrShort},
		{"1f40\r\nX", api.ErrShort},
		{full + "1", api.ErrFull},
		{full + "A", api.ErrSyntax},
		{full + "01", api.ErrSyntax}, // both are of one byte: ErrSyntax is named first
		{full + "0X", api.ErrSyntax},
		{full + "\r\n", api.ErrSyntax},
		{full + "0\r\n", api.ErrShort},
		{full[:len(full)-1], api.ErrShort},
		{full[:len(full)-1] + "1", api.ErrSyntax},
		{full, api.ErrShort},
	} {
		refuse(t, c.s, c.want)
	}
}

func TestEncodeLeavesTheBody(t *testing.T) {
	for _, n := range []int{0, 1, 10, 100} {
		whole := some(n + 50)
		for _, size := range []int{1, 7, n + 1, most, 0, most + 1} {
			Encode(whole[:n], size)
			if !bytes.Equal(whole, some(n+50)) {
				t.Fatalf("Encode of %d bytes by %d has written into what it was handed", n, size)
			}
		}
	}
}

func TestEncodeIsNewMemory(t *testing.T) {
	for _, n := range []int{0, 1, 10, 100} {
		body := some(n)
		a, _ := Encode(body, 7)
		b, _ := Encode(body, 7)
		want := bytes.Clone(b)
		fill(a)
		if !bytes.Equal(b, want) || !bytes.Equal(body, some(n)) {
			t.Errorf("Encode of %d bytes: what came out is not its own", n)
		}
		fill(body)
		if !bytes.Equal(b, want) {
			t.Errorf("Encode of %d bytes: what came out is the body's", n)
		}
	}
}

// fill writes all over a list and what lies behind it.
func fill(b []byte) {
	b = b[:cap(b)]
	for i := range b {
		b[i] = 'x'
	}
}

func TestDecodeLeavesTheBytes(t *testing.T) {
	for _, s := range []string{written(some(20), 20), written(some(20), 5, 15), written(nil), "3\r\nab", "3\r\nabcX", "1\r\na\r\nffff"} {
		b := []byte(s + "behind")
		Decode(b[:len(s)])
		if string(b) != s+"behind" {
			t.Errorf("Decode of %s has written into what it was handed", short(s))
		}
	}
}

func TestDecodeIsNewMemory(t *testing.T) {
	for _, sizes := range [][]int{{20}, {5, 15}, {1}, {19, 1}, {}} {
		n := 0
		for _, k := range sizes {
			n += k
		}
		s := written(some(n), sizes...)
		b := []byte(s)
		first, _, _ := Decode(b)
		second, _, _ := Decode(b)
		fill(first)
		if string(b) != s || !bytes.Equal(second, some(n)) {
			t.Errorf("Decode of pieces %v: what came out is not its own", sizes)
		}
		fill(b)
		if !bytes.Equal(second, some(n)) {
			t.Errorf("Decode of pieces %v: what came out is what was handed in", sizes)
		}
	}
}

// What lies behind a list's length is not read, though it would go on rightly.
func TestDecodeReadsNoneBehindTheLength(t *testing.T) {
	s := written(some(20), 16, 4)
	for n := range len(s) {
		b := []byte(s)
		if got, used, err := Decode(b[:n]); got != nil || used != 0 || plain.Told(err) != api.ErrShort {
			t.Errorf("Decode of the first %d bytes: got %q %d %v, want ErrShort", n, got, used, err)
		}
	}
}

// What the model waits for.
const (
	firstDigit = iota
	laterDigit
	sizeEnd // the second byte of the line end
	inPiece
	pieceEnd
	pieceEndEnd
	over
)

// model takes byte by byte, and says of each whether it may be, by what stands ahead of it.
type model struct {
	waits, size, left, used int
	body                    []byte
	told                    api.Errno
}

func (m *model) digit(c byte) {
	d := strings.IndexByte("0123456789abcdef", c)
	m.size = m.size*16 + d
	switch {
	case d < 0:
		m.told = api.ErrSyntax
	case len(m.body)+m.size > most:
		m.told = api.ErrFull
	}
	m.waits = laterDigit
}

// must be this byte; then it waits for another.
func (m *model) must(c, want byte, then int) {
	if c != want {
		m.told = api.ErrSyntax
	}
	m.waits = then
}

func (m *model) take(c byte) {
	m.used++
	switch m.waits {
	case firstDigit:
		m.size = 0
		m.digit(c)
	case laterDigit:
		if c == 13 || m.size == 0 {
			m.must(c, 13, sizeEnd)
		} else {
			m.digit(c)
		}
	case sizeEnd:
		m.left = m.size
		m.must(c, 10, inPiece)
		if m.size == 0 {
			m.waits = pieceEnd
		}
	case inPiece:
		m.body = append(m.body, c)
		if m.left--; m.left == 0 {
			m.waits = pieceEnd
		}
	case pieceEnd:
		m.must(c, 13, pieceEndEnd)
	case pieceEndEnd:
		m.must(c, 10, firstDigit)
		if m.size == 0 {
			m.waits = over
		}
	}
}

func heard(s string) model {
	var m model
	for i := 0; i < len(s) && m.told == api.OK && m.waits != over; i++ {
		m.take(s[i])
	}
	if m.told == api.OK && m.waits != over {
		m.told = api.ErrShort
	}
	if m.told != api.OK {
		return model{told: m.told}
	}
	return m
}

func holdAgainstModel(t *testing.T, s string) api.Errno {
	t.Helper()
	want := heard(s)
	body, used, err := Decode([]byte(s))
	if plain.Told(err) != want.told || used != want.used || !bytes.Equal(body, want.body) {
		t.Errorf("Decode of %s: got %s %d %v, want %s %d %v", short(s), short(string(body)), used, err, short(string(want.body)), want.used, want.told)
	}
	return want.told
}

// All texts of up to seven of some bytes.
func TestDecodeAllShortOnes(t *testing.T) {
	told := map[api.Errno]int{}
	var grow func(s string, left int)
	grow = func(s string, left int) {
		told[holdAgainstModel(t, s)]++
		if left == 0 || t.Failed() {
			return
		}
		for _, c := range []byte("01fA\r\n") {
			grow(s+string([]byte{c}), left-1)
		}
	}
	for _, ahead := range []string{"", "1\r\n", "2\r\n\r", "1\r\nf\r\n", "0\r\n"} {
		grow(ahead, 7)
	}
	for _, e := range []api.Errno{api.OK, api.ErrSyntax, api.ErrFull, api.ErrShort} {
		if told[e] == 0 {
			t.Errorf("none came to %v", e)
		}
	}
}

// Bodies in pieces of any sizes, then with bytes changed, left out, put in, and cut off.
func TestDecodeMany(t *testing.T) {
	seed := uint64(9)
	roll := func(n int) int {
		seed = seed*6364136223846793005 + 1442695040888963407
		return int(seed>>33) % n
	}
	told := map[api.Errno]int{}
	for range 20000 {
		var sizes []int
		n := 0
		for range roll(6) {
			k := 1 + roll([]int{3, 20, 300, 4200}[roll(4)])
			sizes = append(sizes, k)
			n += k
		}
		s := written(some(n), sizes...)
		if n <= most {
			checkDecode(t, s, some(n), len(s))
		} else {
			refuse(t, s, api.ErrFull)
		}
		at, c := roll(len(s)), string([]byte{"0123456789abcdefABF\r\n x\x00"[roll(24)]})
		switch roll(5) {
		case 0:
			s = s[:at] + c + s[at+1:]
		case 1:
			s = s[:at] + s[at+1:]
		case 2:
			s = s[:at] + c + s[at:]
		case 3:
			s = s[:at]
		case 4:
			s += c
		}
		told[holdAgainstModel(t, s)]++
		if t.Failed() {
			t.FailNow()
		}
	}
	for _, e := range []api.Errno{api.OK, api.ErrSyntax, api.ErrFull, api.ErrShort} {
		if told[e] == 0 {
			t.Errorf("none came to %v", e)
		}
	}
}

func FuzzDecode(f *testing.F) {
	for _, s := range []string{"", "0\r\n\r\n", "3\r\nabc\r\n0\r\n\r\nx", "1f40\r\n", "1f41", "10\r\n0123456789abcdef\r\n0\r\n\r\n"} {
		f.Add(s)
	}
	f.Fuzz(func(t *testing.T, s string) { holdAgainstModel(t, s) })
}
