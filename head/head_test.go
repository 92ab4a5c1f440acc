package head

import (
	"bytes"
	"math"
	"slices"
	"strings"
	"testing"

	"tollgate/api"
	"tollgate/code"
	"tollgate/plain"
	"tollgate/table"
	"tollgate/wire"
)

func field(name, value string) api.Field { return api.Field{Name: name, Value: value} }

// join lays bytes one behind the other; a number is a byte.
func join(parts ...any) (b []byte) {
	for _, p := range parts {
		switch p := p.(type) {
		case int:
			b = append(b, byte(p))
		case string:
			b = append(b, p...)
		case []byte:
			b = append(b, p...)
		}
	}
	return b
}

func number(t *testing.T, n, bits, first int) []byte {
	t.Helper()
	b, err := wire.Put(n, bits, first)
	if err != nil {
		t.Fatal(err)
	}
	return b
}

func coder(t *testing.T, max int) *Coder {
	t.Helper()
	c, err := New(max)
	if err != nil || c == nil {
		t.Fatalf("New(%d): %v %v", max, c, err)
	}
	return c
}

func resize(t *testing.T, c *Coder, sizes ...int) {
	t.Helper()
	for _, n := range sizes {
		if err := c.Resize(n); err != nil {
			t.Fatalf("Resize(%d): %v", n, err)
		}
	}
}

func checkEncode(t *testing.T, c *Coder, l []api.Field, want []byte) {
	t.Helper()
	if b, err := c.Encode(l); err != nil || !bytes.Equal(b, want) {
		t.Errorf("Encode(%q): got %v %v, want %v", l, b, err, want)
	}
}

func refuseEncode(t *testing.T, c *Coder, l []api.Field) {
	t.Helper()
	if b, err := c.Encode(l); b != nil || plain.Told(err) != api.ErrFull {
		t.Errorf("Encode of %d fields, Weight %d: got %v %v, want ErrFull", len(l), Weight(l), b, err)
	}
}

func checkDecode(t *testing.T, c *Coder, b []byte, want ...api.Field) {
	t.Helper()
	if l, err := c.Decode(b); err != nil || !slices.Equal(l, want) {
		t.Errorf("Decode(%v): got %q %v, want %q", b, l, err, want)
	}
}

func refuseDecode(t *testing.T, c *Coder, b []byte, want api.Errno) {
	t.Helper()
	if l, err := c.Decode(b); l != nil || plain.Told(err) != want {
		t.Errorf("Decode(%v): got %q %v, want %v", b, l, err, want)
	}
}

func checkReadText(t *testing.T, b []byte, want string, used int) {
	t.Helper()
	if s, n, err := ReadText(b); s != want || n != used || err != nil {
		t.Errorf("ReadText(%v): got %q %d %v, want %q %d", b, s, n, err, want, used)
	}
}

func refuseReadText(t *testing.T, b []byte, want api.Errno) {
	t.Helper()
	if s, n, err := ReadText(b); s != "" || n != 0 || plain.Told(err) != want {
		t.Errorf("ReadText(%v): got %q %d %v, want %v", b, s, n, err, want)
	}
}

// TestText: coded, if that has fewer bytes; read back as it was, whatever follows.
func TestText(t *testing.T) {
	for _, c := range []struct {
		s    string
		want []byte
	}{
		{"", join(0)},
		{"e", join(1, "e")},
		{"tea", join(3, "tea")}, // 18 bits: three bytes either way
		{"text", join(131, 4, 5, 129)},
		{"teas", join(131, 4, 0, 134)},
		{"max-5", join(5, "max-5")},
		{"max-30", join(133, 52, 37, 154, 153, 189)},
		{"A", join(1, "A")},
		{"\x00\xff", join(2, 0, 255)},
		{"é", join(2, 195, 169)},
		{"    ", join(131, 125, 247, 223)},
		{"0200", join(4, "0200")},
		{strings.Repeat("~", 126), join(126, strings.Repeat("~", 126))},
		{strings.Repeat("~", 127), join(127, 0, strings.Repeat("~", 127))},
		{strings.Repeat("~", 128), join(127, 1, strings.Repeat("~", 128))},
		{strings.Repeat("e", 168), join(254, make([]byte, 126))},
		{strings.Repeat("e", 169), join(255, 0, code.Encode(strings.Repeat("e", 169)))},
		{strings.Repeat("~", 400), join(127, 145, 2, strings.Repeat("~", 400))},
		{strings.Repeat("e", 400), join(255, 173, 1, make([]byte, 300))},
	} {
		b, err := Text(c.s)
		if err != nil || !bytes.Equal(b, c.want) {
			t.Errorf("Text(%q): got %v %v, want %v", c.s, b, err, c.want)
		}
		checkReadText(t, c.want, c.s, len(c.want))
		checkReadText(t, join(c.want, 0), c.s, len(c.want))
		checkReadText(t, join(c.want, 255, 255), c.s, len(c.want))
		for n := range c.want {
			refuseReadText(t, c.want[:n], api.ErrShort)
		}
	}
}

// TestTextBothWays: which way a text is written goes by bytes that it has, mixed as it may be.
func TestTextBothWays(t *testing.T) {
	for n := range 30 {
		for rare := range 30 {
			s := strings.Repeat("e", n) + strings.Repeat("~", rare)
			bytesCoded := (6*n + 9*rare + 7) / 8
			want := join(n+rare, s)
			if bytesCoded < n+rare {
				want = join(128+bytesCoded, code.Encode(s))
			}
			b, err := Text(s)
			if err != nil || !bytes.Equal(b, want) {
				t.Errorf("Text(%q): got %v %v, want %v", s, b, err, want)
			}
			checkReadText(t, b, s, len(b))
		}
	}
}

func TestTextFull(t *testing.T) {
	for _, s := range []string{strings.Repeat("e", 401), strings.Repeat("~", 401), strings.Repeat("e", 533), strings.Repeat("é", 201), strings.Repeat("x", 1<<20)} {
		if b, err := Text(s); b != nil || plain.Told(err) != api.ErrFull {
			t.Errorf("Text of %d bytes: got %v %v, want ErrFull", len(s), b, err)
		}
	}
}

// TestReadTextNumber: what is wrong with how many bytes follow.
func TestReadTextNumber(t *testing.T) {
	refuseReadText(t, nil, api.ErrShort)
	for _, high := range []int{0, 128} {
		first := high + 127
		refuseReadText(t, join(first), api.ErrShort)
		refuseReadText(t, join(first, 128), api.ErrShort)
		refuseReadText(t, join(first, 255, 255), api.ErrShort)
		refuseReadText(t, join(first, 128, 0), api.ErrSyntax)
		refuseReadText(t, join(first, 129, 0, make([]byte, 400)), api.ErrSyntax)
		refuseReadText(t, join(first, 255, 255, 255, 255, 255), api.ErrOver)
		refuseReadText(t, join(first, 128, 128, 128, 128, 8), api.ErrOver)
	}
}

// TestReadTextFull: more bytes than may be are to follow, whether they do or not.
func TestReadTextFull(t *testing.T) {
	for _, high := range []int{0, 128} {
		for _, n := range []int{401, 402, 528, 65536, api.MaxWord} {
			size := number(t, n, 7, high)
			refuseReadText(t, size, api.ErrFull)
			refuseReadText(t, join(size, "~"), api.ErrFull)
			refuseReadText(t, join(size, strings.Repeat("~", 600)), api.ErrFull)
		}
		refuseReadText(t, number(t, 400, 7, high), api.ErrShort)
		refuseReadText(t, join(number(t, 400, 7, high), strings.Repeat("~", 399)), api.ErrShort)
	}
	// The text may have more bytes than what it is coded in.
	for n := 401; n <= 533; n++ {
		few := code.Encode(strings.Repeat("e", n))
		refuseReadText(t, join(number(t, len(few), 7, 128), few), api.ErrFull)
		if n*6%8 != 0 {
			few[len(few)-1] ^= 1 // a bit that fills up
			refuseReadText(t, join(number(t, len(few), 7, 128), few), api.ErrSyntax)
		}
	}
}

// TestReadTextSyntax: bits that are no text, and texts that Text writes otherwise.
func TestReadTextSyntax(t *testing.T) {
	for _, b := range [][]byte{
		join(128),                        // nothing, coded
		join(129, 255),                   // eight bits that fill up nothing
		join(129, 0),                     // two bits are left, and are 0
		join(130, 0, 0),                  // four bits are left, and are 0
		join(133, 52, 37, 154, 153, 188), // max-30, not filled up by a 1 bit
		join(132, 4, 5, 129, 255),        // text, and a byte too many
		join(130, 178, 255),              // e, in eight bits
		join(131, 4, 0, 191),             // tea, as long coded as not
		join(129, 3),                     // e
		join(130, 191, 127),              // ~, longer coded
		join(4, "text"),                  // longer as it is
		join(6, "max-30"),                // so is this
		join(127, 41, strings.Repeat("e", 168)),
	} {
		refuseReadText(t, b, api.ErrSyntax)
		refuseReadText(t, join(b, 1, 2, 3), api.ErrSyntax)
	}
	refuseReadText(t, join(number(t, 400, 7, 0), strings.Repeat("e", 400)), api.ErrSyntax)
	// What is not whole is not looked into.
	refuseReadText(t, join(132, 178, 255), api.ErrShort)
	refuseReadText(t, join(5, "text"), api.ErrShort)
}

// TestReadTextOne: of all that ReadText takes Text writes just that.
func TestReadTextOne(t *testing.T) {
	taken := 0
	for first := range 256 {
		for second := range 256 {
			for _, third := range []int{0, 63, 101, 127, 191, 255} {
				b := join(first, second, third)
				s, used, err := ReadText(b)
				if err != nil {
					continue
				}
				taken++
				if w, err := Text(s); err != nil || !bytes.Equal(w, b[:used]) {
					t.Fatalf("ReadText(%v): %q %d, and Text writes %v %v", b, s, used, w, err)
				}
			}
		}
	}
	if taken < 256*6 {
		t.Errorf("only %d are taken", taken)
	}
}

func TestWeight(t *testing.T) {
	for _, c := range []struct {
		l    []api.Field
		want int
	}{
		{nil, 0},
		{[]api.Field{}, 0},
		{[]api.Field{{}}, 32},
		{[]api.Field{{}, {}}, 64},
		{[]api.Field{field("a", "")}, 33},
		{[]api.Field{field("", "a")}, 33},
		{[]api.Field{field("name", "value"), field("é", "\u20ac")}, 78},
		{[]api.Field{field("a", "b"), field("a", "b")}, 68},
		{make([]api.Field, 1000), 32000},
		{[]api.Field{field(strings.Repeat("n", 5000), strings.Repeat("v", 70000))}, 75032},
	} {
		if n := Weight(c.l); n != c.want {
			t.Errorf("Weight(%.80q): got %d, want %d", c.l, n, c.want)
		}
	}
}

func TestNew(t *testing.T) {
	for _, max := range []int{math.MinInt, -1 << 32, -1, 4097, 65536, 1 << 32, math.MaxInt} {
		if c, err := New(max); c != nil || plain.Told(err) != api.ErrRange {
			t.Errorf("New(%d): got %v %v, want ErrRange", max, c, err)
		}
	}
	for _, max := range []int{0, 1, 32, 4095, 4096} {
		c := coder(t, max)
		checkEncode(t, c, nil, nil)
		checkEncode(t, c, []api.Field{}, nil)
		checkDecode(t, c, nil)
		checkDecode(t, c, []byte{})
	}
}

// TestEncode: a field that the table has, one of which it has the name alone, one of which it has neither.
func TestEncode(t *testing.T) {
	c := coder(t, 4096)
	checkEncode(t, c, []api.Field{field(":method", "GET"), field(":method", "POST"), field("server", "")}, join(129, 130, 140))
	checkEncode(t, c, []api.Field{field(":method", "PUT")}, join(65, 3, "PUT"))
	checkEncode(t, c, []api.Field{field(":method", "PUT")}, join(141))
	checkEncode(t, c, []api.Field{field("x_1", "text"), field("x_1", ""), field("x_1", "")}, join(64, 3, "x_1", 131, 4, 5, 129, 77, 0, 141))
	// The newest has the least number of those that were Added.
	checkEncode(t, c, []api.Field{field("x_1", "text"), field("x_1", "a"), field(":method", "PUT")}, join(142, 77, 1, "a", 144))
	checkEncode(t, c, []api.Field{{}}, join(64, 0, 0))
	checkEncode(t, c, []api.Field{{}, field("", "b")}, join(141, 77, 1, "b"))
	checkEncode(t, c, []api.Field{field("vary", "max-30")}, join(64, 131, 72, 34, 16, 133, 52, 37, 154, 153, 189))
}

// TestEncodeAdds: what goes from the table is spelled anew.
func TestEncodeAdds(t *testing.T) {
	a, b, great := field("a", "1"), field("b", "2"), field("g", strings.Repeat("~", 68))
	spelled := func(f api.Field) []byte { return join(64, 1, f.Name, 1, f.Value) }
	c := coder(t, 100)
	checkEncode(t, c, []api.Field{a, b, a}, join(spelled(a), spelled(b), 142))
	// One that is greater than the table lets all go, and is not Added.
	checkEncode(t, c, []api.Field{great, great}, join(64, 1, "g", 68, great.Value, 64, 1, "g", 68, great.Value))
	checkEncode(t, c, []api.Field{a, b}, join(spelled(a), spelled(b)))
	// One that is just as great lets all others go, and is.
	just := field("g", great.Value[1:])
	checkEncode(t, c, []api.Field{just, just, a}, join(64, 1, "g", 67, just.Value, 141, spelled(a)))
	// No room at all.
	c = coder(t, 0)
	checkEncode(t, c, []api.Field{a, a, {}, {}}, join(spelled(a), spelled(a), 64, 0, 0, 64, 0, 0))
}

// TestGreatNumbers: numbers that have no room in the first byte, of fields and of names.
func TestGreatNumbers(t *testing.T) {
	c, d := coder(t, 4096), coder(t, 4096)
	var all []api.Field // the newest first, as their numbers go from 13 on
	for i := range 3 {
		var l []api.Field
		for k := range 40 {
			l = append(l, field(string([]byte{byte('A' + i), byte('A' + k)}), ""))
		}
		b, err := c.Encode(l)
		if err != nil {
			t.Fatal(err)
		}
		checkDecode(t, d, b, l...)
		for _, f := range l {
			all = slices.Insert(all, 0, f)
		}
	}
	// 120 of 34 bytes each have room in 4096, and just so many.
	for _, x := range []struct {
		n    int
		want []byte
	}{{13, join(141)}, {126, join(254)}, {127, join(255, 0)}, {128, join(255, 1)}, {132, join(255, 5)}} {
		checkEncode(t, c, []api.Field{all[x.n-13]}, x.want)
		checkDecode(t, d, x.want, all[x.n-13])
	}
	refuseDecode(t, d, join(255, 6), api.ErrNone)
	for _, x := range []struct {
		n    int
		want []byte
	}{{62, join(126)}, {63, join(127, 0)}, {64, join(127, 1)}, {132, join(127, 69)}} {
		c := coder(t, 4096)
		d := coder(t, 4096)
		for i := 2; i >= 0; i-- {
			l := slices.Clone(all[40*i : 40*i+40])
			slices.Reverse(l)
			b, err := c.Encode(l)
			if err != nil {
				t.Fatal(err)
			}
			checkDecode(t, d, b, l...)
		}
		f := field(all[x.n-13].Name, "v")
		checkEncode(t, c, []api.Field{f}, join(x.want, 1, "v"))
		checkDecode(t, d, join(x.want, 1, "v"), f)
		checkDecode(t, d, join(141), f)
	}
}

// TestEncodeFull: 40 fields, Weight of 2000, Names and Values of 400 bytes, and one more of each.
func TestEncodeFull(t *testing.T) {
	text := func(n int) string { return strings.Repeat("~", n) }
	heavy := func(more int) []api.Field {
		return []api.Field{field(text(400), text(400)), field(text(400), text(400)), field(text(4), text(300+more))}
	}
	get := field(":method", "GET")
	lists := [][]api.Field{
		slices.Repeat([]api.Field{get}, 40),
		make([]api.Field, 40),
		heavy(0),
		{field(text(400), "")},
		{field("", text(400))},
		{field(strings.Repeat("e", 400), strings.Repeat("e", 400))},
	}
	if Weight(heavy(0)) != 2000 || Weight(heavy(1)) != 2001 {
		t.Fatal(Weight(heavy(0)))
	}
	for _, l := range lists {
		b, err := coder(t, 4096).Encode(l)
		if err != nil {
			t.Errorf("Encode of %d fields, Weight %d: %v", len(l), Weight(l), err)
		}
		checkDecode(t, coder(t, 4096), b, l...)
	}
	c := coder(t, 200)
	for _, l := range [][]api.Field{
		slices.Repeat([]api.Field{get}, 41),
		make([]api.Field, 41),
		make([]api.Field, 100000),
		heavy(1),
		slices.Repeat([]api.Field{field(text(10), text(10))}, 39),
		{field(text(401), "")},
		{field("", text(401))},
		{get, field("a", "b"), field(strings.Repeat("e", 401), "")},
		{get, field("a", "b"), field("", strings.Repeat("e", 401)), get},
		{field("a", text(2000))},
	} {
		refuseEncode(t, c, l)
	}
}

// TestEncodeNothingDone: with an error the table is as it was, and sizes still are to be told.
func TestEncodeNothingDone(t *testing.T) {
	a, b := field("a", "1"), field("b", "2")
	long := field("", strings.Repeat("~", 401))
	c := coder(t, 200)
	checkEncode(t, c, []api.Field{a}, join(64, 1, "a", 1, "1"))
	refuseEncode(t, c, []api.Field{b, long})
	refuseEncode(t, c, append(slices.Repeat([]api.Field{b}, 40), a))
	refuseEncode(t, c, slices.Repeat([]api.Field{field("b", strings.Repeat("~", 200))}, 9))
	checkEncode(t, c, []api.Field{a}, join(141))
	resize(t, c, 150, 90, 120)
	refuseEncode(t, c, []api.Field{long})
	refuseEncode(t, c, make([]api.Field, 41))
	checkEncode(t, c, []api.Field{a, b}, join(63, 59, 63, 89, 141, 64, 1, "b", 1, "2"))
	checkEncode(t, c, []api.Field{a, b}, join(142, 141))
}

// TestResize: the least since the last Encode, and the last, if it is more.
func TestResize(t *testing.T) {
	size := func(n int) []byte { return number(t, n, 5, 32) }
	for _, c := range []struct {
		sizes []int
		want  []byte
	}{
		{nil, nil},
		{[]int{0}, join(32)},
		{[]int{1}, join(33)},
		{[]int{30}, join(62)},
		{[]int{31}, join(63, 0)},
		{[]int{32}, join(63, 1)},
		{[]int{200}, size(200)}, // as it was
		{[]int{4096}, size(4096)},
		{[]int{100, 100}, size(100)},
		{[]int{100, 50}, size(50)},
		{[]int{50, 100}, join(size(50), size(100))},
		{[]int{100, 50, 80}, join(size(50), size(80))},
		{[]int{50, 100, 80}, join(size(50), size(80))},
		{[]int{80, 50, 100, 50}, size(50)},
		{[]int{0, 4096}, join(size(0), size(4096))},
		{[]int{0, 0, 7, 0}, size(0)},
		{[]int{300, 200, 400, 201}, join(size(200), size(201))},
	} {
		for _, l := range [][]api.Field{nil, {field(":method", "GET")}} {
			e := coder(t, 200)
			resize(t, e, c.sizes...)
			want := slices.Clone(c.want)
			if l != nil {
				want = append(want, 129)
			}
			checkEncode(t, e, l, want)
			// They are told once.
			checkEncode(t, e, nil, nil)
			checkEncode(t, e, []api.Field{field(":method", "GET")}, join(129))
			// Those that were told do not count any more.
			resize(t, e, 60)
			checkEncode(t, e, nil, size(60))
			resize(t, e, 70, 65)
			checkEncode(t, e, nil, size(65))
		}
	}
}

// TestResizeTable: it is done at once, to the table for Encode alone.
func TestResizeTable(t *testing.T) {
	a, b := field("a", "1"), field("b", "2")
	c := coder(t, 200)
	checkEncode(t, c, []api.Field{a, b}, join(64, 1, "a", 1, "1", 64, 1, "b", 1, "2"))
	checkDecode(t, c, join(64, 1, "a", 1, "1", 64, 1, "b", 1, "2"), a, b)
	resize(t, c, 67, 100)
	checkEncode(t, c, []api.Field{b, a}, join(63, 36, 63, 69, 141, 64, 1, "a", 1, "1"))
	checkDecode(t, c, join(142, 141), a, b)
	resize(t, c, 0)
	checkEncode(t, c, []api.Field{b, b}, join(32, 64, 1, "b", 1, "2", 64, 1, "b", 1, "2"))
	checkDecode(t, c, join(142, 141), a, b)
	// It may be more than at New.
	c = coder(t, 0)
	resize(t, c, 4096)
	checkEncode(t, c, []api.Field{a, a}, join(63, 225, 31, 64, 1, "a", 1, "1", 141))
}

// TestResizeRange: what is refused is not told, and changes nothing.
func TestResizeRange(t *testing.T) {
	c := coder(t, 200)
	a := field("a", "1")
	checkEncode(t, c, []api.Field{a}, join(64, 1, "a", 1, "1"))
	refuse := func() {
		for _, max := range []int{math.MinInt, -1 << 32, -2, -1, 4097, 1 << 32, math.MaxInt} {
			if err := c.Resize(max); plain.Told(err) != api.ErrRange {
				t.Errorf("Resize(%d): got %v, want ErrRange", max, err)
			}
		}
	}
	refuse()
	checkEncode(t, c, []api.Field{a}, join(141))
	resize(t, c, 50)
	refuse()
	resize(t, c, 40)
	refuse()
	checkEncode(t, c, []api.Field{a}, join(63, 9, 141))
}

// TestDecode: pieces of each kind, also such as Encode does not choose.
func TestDecode(t *testing.T) {
	a, get := field("a", "1"), field(":method", "GET")
	for _, c := range []struct {
		b    []byte
		want []api.Field
		next api.Field // what number 13 is then
	}{
		{join(129), []api.Field{get}, api.Field{}},
		{join(140, 129, 129), []api.Field{field("server", ""), get, get}, api.Field{}},
		{join(64, 1, "a", 1, "1"), []api.Field{a}, a},
		{join(64, 0, 0), []api.Field{{}}, api.Field{}},
		{join(65, 3, "PUT"), []api.Field{field(":method", "PUT")}, field(":method", "PUT")},
		{join(66, 3, "PUT"), []api.Field{field(":method", "PUT")}, field(":method", "PUT")},
		{join(65, 3, "GET"), []api.Field{get}, get},
		{join(64, 134, code.Encode(":method"), 3, "GET"), []api.Field{get}, get},
		{join(64, 131, 4, 5, 129, 131, 4, 5, 129), []api.Field{field("text", "text")}, field("text", "text")},
		{join(64, 1, "a", 1, "1", 77, 1, "2", 142, 141), []api.Field{a, field("a", "2"), a, field("a", "2")}, field("a", "2")},
		{join(0, 1, "b", 1, "2"), []api.Field{field("b", "2")}, api.Field{}},
		{join(16, 1, "b", 1, "2"), []api.Field{field("b", "2")}, api.Field{}},
		{join(1, 3, "PUT"), []api.Field{field(":method", "PUT")}, api.Field{}},
		{join(17, 3, "PUT"), []api.Field{field(":method", "PUT")}, api.Field{}},
		{join(12, 0), []api.Field{field("server", "")}, api.Field{}},
		{join(28, 0), []api.Field{field("server", "")}, api.Field{}},
		{join(64, 1, "a", 1, "1", 13, 1, "2", 29, 1, "3", 141), []api.Field{a, field("a", "2"), field("a", "3"), a}, a},
		{join(32, 63, 69), nil, api.Field{}},
		{join(32, 63, 69, 64, 1, "a", 1, "1", 141), []api.Field{a, a}, a},
	} {
		d := coder(t, 100)
		checkDecode(t, d, c.b, c.want...)
		if c.next == (api.Field{}) && !bytes.Equal(c.b, join(64, 0, 0)) {
			refuseDecode(t, d, join(141), api.ErrNone)
			continue
		}
		checkDecode(t, d, join(141), c.next)
	}
}

// TestDecodeLone: four bits of a number, and more, and none of these fields is Added.
func TestDecodeLone(t *testing.T) {
	for _, high := range []int{0, 16} {
		d := coder(t, 4096)
		for i := range 20 {
			checkDecode(t, d, join(64, 1, 'A'+i, 0), field(string(rune('A'+i)), ""))
		}
		for n := 13; n <= 32; n++ {
			name := string(rune('A' + 32 - n))
			checkDecode(t, d, join(number(t, n, 4, high), 1, "v"), field(name, "v"))
		}
		checkDecode(t, d, join(high, 1, "z", 1, "v"), field("z", "v"))
		checkDecode(t, d, join(141), field("T", ""))
		refuseDecode(t, d, join(number(t, 33, 4, high), 1, "v"), api.ErrNone)
	}
}

func TestDecodeNone(t *testing.T) {
	for _, b := range [][]byte{
		join(128), join(141), join(254), join(255, 0), number(t, api.MaxWord, 7, 128),
		join(129, 128),
		join(77, 0), join(127, 0, 0), join(127, 128, 1, 0),
		join(13, 0), join(29, 0), join(15, 0, 0), join(31, 200, 1, 0),
		join(64, 1, "a", 0, 142),
		join(64, 1, "a", 0, 78, 0),
		join(0, 1, "a", 0, 141),
	} {
		refuseDecode(t, coder(t, 100), b, api.ErrNone)
	}
	// What has gone has no number any more.
	d := coder(t, 100)
	checkDecode(t, d, join(64, 1, "a", 1, "1", 64, 1, "b", 1, "2", 142), field("a", "1"), field("b", "2"), field("a", "1"))
	checkDecode(t, d, join(64, 1, "c", 1, "3", 142), field("c", "3"), field("b", "2"))
	refuseDecode(t, d, join(143), api.ErrNone)
}

// TestDecodeGoes: a field that is greater than the table lets all go, and is told all the same.
func TestDecodeGoes(t *testing.T) {
	great := strings.Repeat("~", 68)
	d := coder(t, 100)
	checkDecode(t, d, join(64, 1, "a", 1, "1", 141), field("a", "1"), field("a", "1"))
	checkDecode(t, d, join(0, 1, "g", 68, great, 141), field("g", great), field("a", "1"))
	checkDecode(t, d, join(77, 68, great), field("a", great))
	refuseDecode(t, d, join(141), api.ErrNone)
	d = coder(t, 0)
	checkDecode(t, d, join(64, 0, 0), api.Field{})
	refuseDecode(t, d, join(141), api.ErrNone)
}

// TestDecodeSize: ahead of all fields, and no more than at New.
func TestDecodeSize(t *testing.T) {
	size := func(n int) []byte { return number(t, n, 5, 32) }
	for _, max := range []int{0, 1, 30, 31, 32, 100, 4095, 4096} {
		checkDecode(t, coder(t, max), size(max))
		checkDecode(t, coder(t, max), size(0))
		checkDecode(t, coder(t, max), join(size(max), size(0), size(max), 129), field(":method", "GET"))
		refuseDecode(t, coder(t, max), size(max+1), api.ErrRange)
		refuseDecode(t, coder(t, max), join(size(0), size(max+1)), api.ErrRange)
		refuseDecode(t, coder(t, max), size(4097), api.ErrRange)
		refuseDecode(t, coder(t, max), size(api.MaxWord), api.ErrRange)
		refuseDecode(t, coder(t, max), join(129, size(max)), api.ErrState)
		refuseDecode(t, coder(t, max), join(129, size(0)), api.ErrState)
		refuseDecode(t, coder(t, max), join(size(0), 0, 1, "a", 0, size(0)), api.ErrState)
		// Too great, and behind a field as well.
		refuseDecode(t, coder(t, max), join(129, size(max+1)), api.ErrRange)
	}
	// A smaller one is no bound for those that come later; nor is what Resize says of the other table.
	a := field("a", "1")
	d := coder(t, 100)
	resize(t, d, 4096)
	checkDecode(t, d, join(size(50), 64, 1, "a", 1, "1"), a)
	checkDecode(t, d, join(141, 141), a, a)
	checkDecode(t, d, join(size(100), 141), a)
	checkDecode(t, d, join(size(34), 141), a)
	checkDecode(t, d, join(size(33), size(100), 64, 1, "b", 1, "2"), field("b", "2"))
	checkDecode(t, d, join(141), field("b", "2"))
	refuseDecode(t, d, size(101), api.ErrRange)
	d = coder(t, 100)
	resize(t, d, 10)
	checkDecode(t, d, join(size(100), 64, 1, "a", 1, "1", 141), a, a)
	refuseDecode(t, d, join(142), api.ErrNone)
}

// TestDecodeSizeGoes: a size lets the oldest go, of the table for Decode alone.
func TestDecodeSizeGoes(t *testing.T) {
	a, b := field("a", "1"), field("b", "2")
	both := join(64, 1, "a", 1, "1", 64, 1, "b", 1, "2")
	for _, x := range []struct {
		sizes []byte
		left  int
	}{
		{nil, 2},
		{number(t, 68, 5, 32), 2},
		{number(t, 67, 5, 32), 1},
		{number(t, 34, 5, 32), 1},
		{number(t, 33, 5, 32), 0},
		{join(32), 0},
		{join(32, number(t, 100, 5, 32)), 0},
		{join(number(t, 100, 5, 32), number(t, 50, 5, 32), number(t, 100, 5, 32)), 1},
	} {
		d := coder(t, 100)
		checkEncode(t, d, []api.Field{a, b}, both)
		checkDecode(t, d, both, a, b)
		checkDecode(t, d, x.sizes)
		checkDecode(t, d, join(141, 142)[:x.left], []api.Field{b, a}[:x.left]...)
		refuseDecode(t, d, join(141+x.left), api.ErrNone)
		checkEncode(t, d, []api.Field{a, b}, join(142, 141))
	}
	// What comes behind it has no more room than that.
	d := coder(t, 100)
	checkDecode(t, d, join(63, 3, both, 141), a, b, b)
	refuseDecode(t, d, join(142), api.ErrNone)
	d = coder(t, 100)
	checkDecode(t, d, join(63, 2, both), a, b)
	refuseDecode(t, d, join(141), api.ErrNone)
}

// TestDecodeFull: 40 fields, and Weight of 2000, and one more.
func TestDecodeFull(t *testing.T) {
	long := join(127, 145, 2, strings.Repeat("~", 400))
	heavy := func(more int) []byte {
		return join(0, long, long, 16, long, long, 0, 4, "~~~~", number(t, 300+more, 7, 0), strings.Repeat("~", 300+more))
	}
	if l, err := coder(t, 100).Decode(heavy(0)); err != nil || Weight(l) != 2000 || len(l) != 3 {
		t.Errorf("Weight %d: %v", Weight(l), err)
	}
	refuseDecode(t, coder(t, 100), heavy(1), api.ErrFull)
	get := field(":method", "GET")
	forty := bytes.Repeat([]byte{129}, 40)
	checkDecode(t, coder(t, 100), forty, slices.Repeat([]api.Field{get}, 40)...)
	checkDecode(t, coder(t, 100), join(32, 33, forty), slices.Repeat([]api.Field{get}, 40)...)
	for _, more := range [][]byte{join(129), join(64, 0, 0), join(0, 0, 0), forty} {
		refuseDecode(t, coder(t, 100), join(forty, more), api.ErrFull)
	}
	refuseDecode(t, coder(t, 100), bytes.Repeat([]byte{129}, 100000), api.ErrFull)
	// What is wrong with the 41st piece itself is told of it.
	refuseDecode(t, coder(t, 100), join(forty, 128), api.ErrNone)
	refuseDecode(t, coder(t, 100), join(forty, 64, 1), api.ErrShort)
	refuseDecode(t, coder(t, 100), join(forty, 32), api.ErrState)
	// Fields of the table weigh as others do; sizes weigh nothing.
	d := coder(t, 4096)
	value := strings.Repeat("~", 400)
	checkDecode(t, d, join(64, 1, "a", long, 141, 141, 141), slices.Repeat([]api.Field{field("a", value)}, 4)...)
	refuseDecode(t, d, join(141, 141, 141, 141, 141), api.ErrFull)
	checkDecode(t, coder(t, 100), bytes.Repeat([]byte{33}, 5000))
}

// TestDecodeTexts: chapter 1's errors, and those of texts, of Names and of Values.
func TestDecodeTexts(t *testing.T) {
	for _, first := range [][]byte{join(64), join(0), join(16), join(65), join(1), join(17), join(64, 1, "a"), join(0, 1, "a"), join(16, 1, "a")} {
		for _, x := range []struct {
			b    []byte
			want api.Errno
		}{
			{nil, api.ErrShort},
			{join(1), api.ErrShort},
			{join(4, "abc"), api.ErrShort},
			{join(131, 4, 5), api.ErrShort},
			{join(127, 128), api.ErrShort},
			{join(127, 128, 0), api.ErrSyntax},
			{join(127, 255, 255, 255, 255, 255), api.ErrOver},
			{number(t, 401, 7, 0), api.ErrFull},
			{number(t, 401, 7, 128), api.ErrFull},
			{join(number(t, 301, 7, 128), code.Encode(strings.Repeat("e", 401))), api.ErrFull},
			{join(4, "text", 0), api.ErrSyntax},
			{join(131, 4, 0, 191, 0), api.ErrSyntax},
			{join(133, 52, 37, 154, 153, 188, 0), api.ErrSyntax},
		} {
			refuseDecode(t, coder(t, 100), join(first, x.b), x.want)
			refuseDecode(t, coder(t, 100), join(129, 0, 0, 0, first, x.b), x.want)
		}
	}
}

// TestDecodeNumbers: chapter 1's errors, of each kind of piece.
func TestDecodeNumbers(t *testing.T) {
	for _, first := range []int{255, 127, 63, 31, 15} {
		for _, x := range []struct {
			b    []byte
			want api.Errno
		}{
			{nil, api.ErrShort},
			{join(128), api.ErrShort},
			{join(128, 0), api.ErrSyntax},
			{join(255, 128, 0, 1, "a"), api.ErrSyntax},
			{join(255, 255, 255, 255, 255), api.ErrOver},
			{join(128, 128, 128, 128, 128), api.ErrOver},
		} {
			refuseDecode(t, coder(t, 4096), join(first, x.b), x.want)
			refuseDecode(t, coder(t, 4096), join(140, first, x.b), x.want)
		}
	}
}

// TestDecodeFirstFault: of several faults the one that stands first is told.
func TestDecodeFirstFault(t *testing.T) {
	for _, x := range []struct {
		b    []byte
		want api.Errno
	}{
		{join(128, 64), api.ErrNone},
		{join(64, 4, "text", 128), api.ErrSyntax},
		{join(129, 32, 128), api.ErrState},
		{join(63, 200, 1, 128), api.ErrRange},
		{join(127, 255, 255, 255, 255, 255, 128), api.ErrOver},
		// A number that is not there, ahead of a Value that is wrong, or does not end.
		{join(77, 4, "text"), api.ErrNone},
		{join(77, 4, "a"), api.ErrNone},
		{join(77), api.ErrNone},
		{join(13), api.ErrNone},
		{join(29, 4, "text"), api.ErrNone},
		// A Name ahead of a Value.
		{join(64, 4, "text", 127, 128, 128, 128, 128, 8), api.ErrSyntax},
		{join(64, 127, 128, 128, 128, 128, 8, 4, "text"), api.ErrOver},
		{join(0, 1, "a", 4, "text", 128), api.ErrSyntax},
	} {
		refuseDecode(t, coder(t, 100), x.b, x.want)
	}
}

// TestDecodeCut: a list that is cut within a piece is ErrShort; between two it is a list.
func TestDecodeCut(t *testing.T) {
	pieces := [][]byte{
		join(63, 69), join(32), join(63, 50),
		join(129), join(64, 3, "x_1", 131, 4, 5, 129), join(77, 1, "a"),
		join(0, 131, 72, 34, 16, 5, "max-5"), join(17, 3, "PUT"), join(68, 133, 52, 37, 154, 153, 189),
		join(64, 0, 0), join(141),
	}
	var b []byte
	for _, p := range pieces {
		for n := 1; n < len(p); n++ {
			refuseDecode(t, coder(t, 100), join(b, p[:n]), api.ErrShort)
		}
		b = append(b, p...)
		if l, err := coder(t, 100).Decode(b); err != nil {
			t.Errorf("Decode(%v): %q %v", b, l, err)
		}
	}
}

// TestDecodeNoUse: behind an error every Decode is ErrState, and Encode goes on.
func TestDecodeNoUse(t *testing.T) {
	a := field("a", "1")
	for _, bad := range [][]byte{
		join(128), join(64), join(129, 32), join(63, 200, 1), join(4, 4, "text"),
		join(127, 255, 255, 255, 255, 255), bytes.Repeat([]byte{129}, 41),
	} {
		c, other := coder(t, 100), coder(t, 100)
		checkEncode(t, c, []api.Field{a}, join(64, 1, "a", 1, "1"))
		checkDecode(t, c, join(129), field(":method", "GET"))
		resize(t, c, 90)
		if l, err := c.Decode(bad); l != nil || err == nil || plain.Told(err) == api.ErrState && bad[0] != 129 {
			t.Errorf("Decode(%v): got %q %v", bad, l, err)
		}
		for _, b := range [][]byte{nil, {}, join(129), join(32), join(128), bad, join(64, 1, "a", 1, "1")} {
			refuseDecode(t, c, b, api.ErrState)
		}
		checkEncode(t, c, []api.Field{a}, join(63, 59, 141))
		resize(t, c, 80)
		checkEncode(t, c, []api.Field{a}, join(63, 49, 141))
		refuseDecode(t, c, nil, api.ErrState)
		checkDecode(t, other, join(129), field(":method", "GET"))
	}
	// An error of Encode, or of Resize, does not matter to Decode.
	c := coder(t, 100)
	refuseEncode(t, c, make([]api.Field, 41))
	if err := c.Resize(-1); plain.Told(err) != api.ErrRange {
		t.Error(err)
	}
	checkDecode(t, c, join(129), field(":method", "GET"))
}

// TestApart: the two tables of a Coder, and those of two Coders, have nothing in common.
func TestApart(t *testing.T) {
	a := field("a", "1")
	c, d := coder(t, 100), coder(t, 100)
	checkEncode(t, c, []api.Field{a}, join(64, 1, "a", 1, "1"))
	checkEncode(t, d, []api.Field{a}, join(64, 1, "a", 1, "1"))
	refuseDecode(t, c, join(141), api.ErrNone)
	c = coder(t, 100)
	checkDecode(t, c, join(64, 1, "a", 1, "1"), a)
	checkEncode(t, c, []api.Field{a}, join(64, 1, "a", 1, "1"))
}

// TestFresh: what is handed in is neither written into nor kept, and what comes out is the caller's.
func TestFresh(t *testing.T) {
	c := coder(t, 200)
	l := []api.Field{field("a", "1"), field("b", "2")}
	b, err := c.Encode(l)
	if err != nil || l[0] != field("a", "1") || l[1] != field("b", "2") {
		t.Fatalf("%q %v", l, err)
	}
	l[0], l[1] = field("x", "x"), field("x", "x")
	got, err := c.Decode(b)
	if err != nil {
		t.Fatal(err)
	}
	clear(b[:cap(b)])
	if !slices.Equal(got, []api.Field{field("a", "1"), field("b", "2")}) {
		t.Errorf("kept: %q", got)
	}
	got[0], got[1] = field("y", "y"), field("y", "y")
	checkEncode(t, c, []api.Field{field("b", "2"), field("a", "1")}, join(141, 142))
	checkDecode(t, c, join(141, 142), field("b", "2"), field("a", "1"))
	in := join(3, "tea", 9, 9)
	s, _, err := ReadText(in)
	if err != nil || !bytes.Equal(in, join(3, "tea", 9, 9)) {
		t.Errorf("%v %v", in, err)
	}
	clear(in)
	if s != "tea" {
		t.Errorf("kept: %q", s)
	}
	// What lies behind a list's length is not written.
	room := join(64, 1, "a", 1, "1", 77, 77, 77)
	if _, err := coder(t, 200).Decode(room[:5]); err != nil || !bytes.Equal(room, join(64, 1, "a", 1, "1", 77, 77, 77)) {
		t.Errorf("%v %v", room, err)
	}
}

// dice gives numbers that look random and are the same each time.
func dice(seed uint32) func(n int) int {
	return func(n int) int {
		seed = seed*1664525 + 1013904223
		return int(seed>>16) % n
	}
}

// told is what Encode is to write, by the words of the chapter, with a table that is done to alike.
func told(t *testing.T, tab *table.Table, sizes []int, l []api.Field) (b []byte) {
	t.Helper()
	if len(sizes) > 0 {
		least, last := slices.Min(sizes), sizes[len(sizes)-1]
		b = append(b, number(t, least, 5, 32)...)
		if last > least {
			b = append(b, number(t, last, 5, 32)...)
		}
	}
	spell := func(s string) {
		few := code.Encode(s)
		if len(few) < len(s) {
			b = append(append(b, number(t, len(few), 7, 128)...), few...)
		} else {
			b = append(append(b, number(t, len(s), 7, 0)...), s...)
		}
	}
	for _, f := range l {
		n, name := tab.Find(f)
		if n > 0 {
			b = append(b, number(t, n, 7, 128)...)
			continue
		}
		b = append(b, number(t, name, 6, 64)...)
		if name == 0 {
			spell(f.Name)
		}
		spell(f.Value)
		tab.Add(f)
	}
	return b
}

// TestListBehindList: what one Coder Encodes another one Decodes, with Resizes between.
func TestListBehindList(t *testing.T) {
	names := []string{"", "a", "cookie", ":method", "type", "x_1", "a-long-name-of-a-field", "LOUD", "b", "c", "d", "e"}
	values := []string{"", "1", "GET", "text", "max-30", "a; b", "é", strings.Repeat("v", 40), strings.Repeat("~", 130), strings.Repeat("w", 300)}
	for i, max := range []int{0, 32, 60, 100, 200, 1000, 4096} {
		next := dice(uint32(i + 1))
		c, d := coder(t, max), coder(t, max)
		tab, err := table.New(max)
		if err != nil {
			t.Fatal(err)
		}
		var sizes []int
		for range 400 {
			for range max0(next(6) - 2) {
				n := next(max + 1)
				resize(t, c, n)
				if err := tab.Resize(n); err != nil {
					t.Fatal(err)
				}
				sizes = append(sizes, n)
			}
			var l []api.Field
			for range next(12) {
				l = append(l, field(names[next(len(names))], values[next(len(values))]))
			}
			if Weight(l) > 2000 {
				refuseEncode(t, c, l)
				continue
			}
			want := told(t, tab, sizes, l)
			sizes = nil
			checkEncode(t, c, l, want)
			checkDecode(t, d, want, l...)
			if t.Failed() {
				return
			}
		}
	}
}

func max0(n int) int { return max(n, 0) }

// TestAnyBytes: whatever comes, Decode ends; what it takes can be said and heard again.
func TestAnyBytes(t *testing.T) {
	next := dice(7)
	firsts := []int{129, 135, 141, 142, 64, 65, 72, 77, 0, 16, 3, 20, 32, 63, 33, 128, 255, 127, 15}
	taken := 0
	for range 60000 {
		var b []byte
		for range next(5) {
			b = append(b, byte(firsts[next(len(firsts))]))
			for range next(3) {
				n := next(5)
				b = append(b, byte(n))
				for range n {
					b = append(b, byte(next(256)))
				}
			}
		}
		c := coder(t, 100)
		l, err := c.Decode(b)
		if err != nil {
			if e := plain.Told(err); l != nil || e <= api.OK || e > api.ErrOver {
				t.Fatalf("Decode(%v): %q %v", b, l, err)
			}
			refuseDecode(t, c, nil, api.ErrState)
			continue
		}
		taken++
		if len(l) > 40 || Weight(l) > 2000 {
			t.Fatalf("Decode(%v): %q", b, l)
		}
		said, err := c.Encode(l)
		if err != nil {
			t.Fatalf("Encode(%q): %v", l, err)
		}
		checkDecode(t, coder(t, 100), said, l...)
	}
	if taken < 3000 {
		t.Errorf("only %d are taken", taken)
	}
}
