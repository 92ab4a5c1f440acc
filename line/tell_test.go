package line

import (
	"bytes"
	"fmt"
	"math"
	"slices"
	"strconv"
	"strings"
	"testing"

	"tollgate/api"
	"tollgate/plain"
)

var (
	lowNumbers  = []int{math.MinInt, math.MinInt + 1, math.MinInt32, -8000, -2, -1}
	greatSizes  = []int{api.MaxBody + 1, api.MaxBody + 2, math.MaxUint16 + 2, math.MaxInt32, math.MaxUint32 + 2, math.MaxInt - 1, math.MaxInt}
	wrongCodes  = []int{0, 1, 10, 99, 600, 601, 999, 1000, 1200, math.MaxUint32 + 201, math.MaxInt - 1, math.MaxInt}
	rightCodes  = []int{100, 101, 199, 200, 201, 203, 204, 205, 299, 303, 304, 305, 404, 500, 598, 599}
	silentCodes = []int{100, 101, 150, 199, 204, 304}
)

// inPiecesOf writes a body in pieces of sizes that are told one by one; it is not written by the program.
func inPiecesOf(body []byte, sizes ...int) string {
	var s strings.Builder
	for _, n := range sizes {
		fmt.Fprintf(&s, "%x\r\n%s\r\n", n, body[:n])
		body = body[n:]
	}
	return s.String() + "0\r\n\r\n"
}

// each size of a body in pieces of one size.
func each(n, size int) (l []int) {
	for ; n > size; n -= size {
		l = append(l, size)
	}
	if n > 0 {
		l = append(l, n)
	}
	return l
}

func TestTell(t *testing.T) {
	for _, c := range []struct {
		r    api.Reply
		size int
		want string
	}{
		{api.Reply{Code: 200}, 0, "EDGE/1 200\r\nlength: 0\r\n\r\n"},
		{api.Reply{Code: 200}, 1, "EDGE/1 200\r\ncoding: chunked\r\n\r\n0\r\n\r\n"},
		{api.Reply{Code: 200, Fields: []api.Field{}, Body: []byte{}}, 8000, "EDGE/1 200\r\ncoding: chunked\r\n\r\n0\r\n\r\n"},
		{api.Reply{Code: 404, Fields: []api.Field{{Name: "a", Value: ""}, {Name: "b-c", Value: "x: y"}}}, 0, "EDGE/1 404\r\na: \r\nb-c: x: y\r\nlength: 0\r\n\r\n"},
		{api.Reply{Code: 599, Fields: []api.Field{{Name: "a", Value: "b"}}, Body: []byte("\r\n\x00")}, 0, "EDGE/1 599\r\na: b\r\nlength: 3\r\n\r\n\r\n\x00"},
		{api.Reply{Code: 599, Fields: []api.Field{{Name: "a", Value: "b"}}, Body: []byte("abcde")}, 2, "EDGE/1 599\r\na: b\r\ncoding: chunked\r\n\r\n2\r\nab\r\n2\r\ncd\r\n1\r\ne\r\n0\r\n\r\n"},
		{api.Reply{Code: 200, Body: []byte("0123456789")}, 0, "EDGE/1 200\r\nlength: 10\r\n\r\n0123456789"},
		{api.Reply{Code: 200, Body: []byte("0123456789")}, 10, "EDGE/1 200\r\ncoding: chunked\r\n\r\na\r\n0123456789\r\n0\r\n\r\n"},
	} {
		checkTell(t, c.r, c.size, c.want)
		for _, closed := range []bool{false, true} {
			checkReadTell(t, c.want, how{false, closed}, c.r, len(c.want))
		}
	}
}

// What has no body when it is read is told with one, if there is one.
func TestTellSilentCodes(t *testing.T) {
	for _, code := range silentCodes {
		head := fmt.Sprintf("EDGE/1 %d\r\na: b\r\n", code)
		r := api.Reply{Code: code, Fields: []api.Field{{Name: "a", Value: "b"}}, Body: []byte("xyz")}
		checkTell(t, r, 0, head+"length: 3\r\n\r\nxyz")
		checkTell(t, r, 2, head+"coding: chunked\r\n\r\n2\r\nxy\r\n1\r\nz\r\n0\r\n\r\n")
	}
}

func TestTellBodies(t *testing.T) {
	for _, n := range []int{0, 1, 9, 10, 100, 1000, api.MaxBody - 1, api.MaxBody} {
		r := api.Reply{Code: 200, Body: some(n)}
		checkTell(t, r, 0, fmt.Sprintf("EDGE/1 200\r\nlength: %d\r\n\r\n%s", n, some(n)))
		for _, size := range []int{1, 2, 7, 100, n/2 + 1, max(n, 1), api.MaxBody - 1, api.MaxBody} {
			want := "EDGE/1 200\r\ncoding: chunked\r\n\r\n" + inPiecesOf(some(n), each(n, size)...)
			checkTell(t, r, size, want)
			checkReadTell(t, want+"x", how{}, r, len(want))
		}
		for _, size := range greatSizes {
			checkTell(t, r, size, "EDGE/1 200\r\ncoding: chunked\r\n\r\n"+inPiecesOf(some(n), each(n, api.MaxBody)...))
		}
	}
	for _, n := range []int{api.MaxBody + 1, api.MaxBody + 2, 1 << 20} {
		for _, size := range slices.Concat([]int{0, 1, api.MaxBody}, greatSizes, lowNumbers) {
			refuseTell(t, api.Reply{Code: 200, Body: make([]byte, n)}, size, api.ErrFull)
		}
	}
}

func TestTellManyFields(t *testing.T) {
	for _, n := range []int{0, 1, api.MaxFields - 1, api.MaxFields} {
		r := api.Reply{Code: 200, Fields: list(n), Body: []byte("ab")}
		head := "EDGE/1 200\r\n" + lines(list(n))
		checkTell(t, r, 0, head+"length: 2\r\n\r\nab")
		checkTell(t, r, 5, head+"coding: chunked\r\n\r\n2\r\nab\r\n0\r\n\r\n")
		checkReadTell(t, head+"length: 2\r\n\r\nab", how{}, r, len(head)+15)
		checkReadTell(t, head+"coding: chunked\r\n\r\n2\r\nab\r\n0\r\n\r\n", how{}, r, len(head)+31)
		checkReadTell(t, head+"\r\nab", how{false, true}, r, len(head)+4)
	}
	for _, n := range []int{api.MaxFields + 1, 1000} {
		refuseTell(t, api.Reply{Code: 200, Fields: list(n)}, 0, api.ErrFull)
		refuseTell(t, api.Reply{Code: 200, Fields: list(n)}, 1, api.ErrFull)
	}
}

func TestTellCodesAndSizes(t *testing.T) {
	for _, code := range rightCodes {
		head := "EDGE/1 " + strconv.Itoa(code) + "\r\n"
		r := api.Reply{Code: code}
		checkTell(t, r, 0, head+"length: 0\r\n\r\n")
		checkTell(t, r, 1, head+"coding: chunked\r\n\r\n0\r\n\r\n")
		for _, h := range allWays() {
			checkReadTell(t, head+"length: 0\r\n\r\nx", h, r, len(head)+13)
		}
		for _, size := range lowNumbers {
			refuseTell(t, r, size, api.ErrRange)
		}
	}
	for _, code := range slices.Concat(lowNumbers, wrongCodes) {
		for _, size := range slices.Concat([]int{0, 1}, lowNumbers, greatSizes) {
			refuseTell(t, api.Reply{Code: code}, size, api.ErrRange)
		}
	}
}

func TestTellWhichError(t *testing.T) {
	bad, taken := []api.Field{{Name: "A", Value: "b"}}, []api.Field{{Name: "coding", Value: "chunked"}}
	for _, l := range [][]api.Field{bad, taken} {
		refuseTell(t, api.Reply{Code: 99, Fields: l}, 0, api.ErrRange)
		refuseTell(t, api.Reply{Code: 600, Fields: l}, 7, api.ErrRange)
		refuseTell(t, api.Reply{Code: 200, Fields: l}, -1, api.ErrRange)
		refuseTell(t, api.Reply{Code: 200, Fields: l, Body: some(8001)}, -1, api.ErrFull)
		refuseTell(t, api.Reply{Code: 99, Fields: slices.Repeat(l, 41)}, -1, api.ErrFull)
	}
	refuseTell(t, api.Reply{Code: 200, Fields: bad}, 0, api.ErrSyntax)
	refuseTell(t, api.Reply{Code: 200, Fields: taken}, 0, api.ErrShape)
	for _, s := range []string{"host", "length", "coding"} {
		refuseTell(t, api.Reply{Code: 200, Fields: []api.Field{{Name: s, Value: "0"}}}, 0, api.ErrShape)
		refuseTell(t, api.Reply{Code: 204, Fields: []api.Field{{Name: s, Value: "0"}}}, 3, api.ErrShape)
	}
}

func TestTellEachByte(t *testing.T) {
	tell := func(f api.Field, ok bool) {
		r := api.Reply{Code: 200, Fields: []api.Field{f}}
		if !ok {
			refuseTell(t, r, 0, api.ErrSyntax)
			return
		}
		want := "EDGE/1 200\r\n" + f.Name + ": " + f.Value + "\r\nlength: 0\r\n\r\n"
		checkTell(t, r, 0, want)
		checkReadTell(t, want, how{}, r, len(want))
	}
	eachByte(within(nameBytes), func(s string, ok bool) { tell(api.Field{Name: s, Value: "b"}, ok) })
	eachByte(plainByte, func(s string, ok bool) { tell(api.Field{Name: "a", Value: s}, ok) })
}

const (
	toldHead   = "EDGE/1 200\r\na: b c\r\nx_1: \r\n"
	toldLength = toldHead + "length: 12\r\n\r\n0123\r\n\r\n89\r\n"
	toldPieces = toldHead + "coding: chunked\r\n\r\n7\r\n0123\r\n\r\r\n5\r\n\n89\r\n\r\n0\r\n\r\n"
)

func toldReply() api.Reply {
	return api.Reply{Code: 200, Fields: askedRequest().Fields, Body: askedRequest().Body}
}

func TestReadTellBehind(t *testing.T) {
	for _, behind := range []string{"", "x", "\r\n", "0", toldLength, toldPieces, string(some(30000))} {
		for _, closed := range []bool{false, true} {
			checkReadTell(t, toldLength+behind, how{false, closed}, toldReply(), len(toldLength))
			checkReadTell(t, toldPieces+behind, how{false, closed}, toldReply(), len(toldPieces))
		}
	}
}

func TestReadTellOneByOne(t *testing.T) {
	var all []byte
	for n := range 60 {
		b, err := Tell(api.Reply{Code: 200, Fields: list(n % 41), Body: some(n * n)}, n%5)
		if err != nil {
			t.Fatal(err)
		}
		all = append(all, b...)
	}
	for n := range 60 {
		a, used, err := ReadTell(all, false, n%2 == 0)
		if err != nil || !sameTell(a, api.Reply{Code: 200, Fields: list(n % 41), Body: some(n * n)}) {
			t.Fatalf("ReadTell of reply %d: got %d %v", n, used, err)
		}
		all = all[used:]
	}
	if len(all) != 0 {
		t.Errorf("%d bytes are left", len(all))
	}
}

func TestReadTellPiecesOfAnySizes(t *testing.T) {
	for _, sizes := range [][]int{{}, {1}, {1, 2, 3}, {16, 15, 17}, {255, 1, 256}, {4000, 4000}, {1, 7999}, {8000}, each(8000, 1), each(8000, 999)} {
		n := 0
		for _, k := range sizes {
			n += k
		}
		s := toldHead + "coding: chunked\r\n\r\n" + inPiecesOf(some(n), sizes...)
		for _, closed := range []bool{false, true} {
			checkReadTell(t, s+"1", how{false, closed}, api.Reply{Code: 200, Fields: toldReply().Fields, Body: some(n)}, len(s))
		}
	}
}

func TestReadTellShort(t *testing.T) {
	for _, s := range []string{toldLength, toldPieces, "EDGE/1 200\r\nlength: 0\r\n\r\n", "EDGE/1 404\r\n" + lines(list(api.MaxFields)) + "coding: chunked\r\n\r\n0\r\n\r\n"} {
		for n := range len(s) {
			refuseReadTell(t, s[:n], how{false, false}, api.ErrShort)
			refuseReadTell(t, s[:n], how{false, true}, api.ErrShort)
		}
		end := strings.Index(s, "\r\n\r\n") + 4
		for n := range end {
			refuseReadTell(t, s[:n], how{true, false}, api.ErrShort)
			refuseReadTell(t, s[:n], how{true, true}, api.ErrShort)
		}
	}
	for _, h := range allWays() {
		if a, n, err := ReadTell(nil, h.bare, h.closed); n != 0 || !sameTell(a, api.Reply{}) || plain.Told(err) != api.ErrShort {
			t.Errorf("ReadTell of nil: got %v %d %v, want ErrShort", a, n, err)
		}
	}
}

// silent lists what has no body, and how it is read.
func silent() (l []struct {
	code int
	h    how
}) {
	for _, code := range rightCodes {
		for _, h := range allWays() {
			if h.bare || slices.Contains(silentCodes, code) {
				l = append(l, struct {
					code int
					h    how
				}{code, h})
			}
		}
	}
	return l
}

func TestReadTellWithoutBody(t *testing.T) {
	for _, c := range silent() {
		for _, last := range []string{"", "length: 0\r\n", "length: 5\r\n", "length: 8000\r\n", "coding: chunked\r\n"} {
			head := fmt.Sprintf("EDGE/1 %d\r\na: b\r\n%s\r\n", c.code, last)
			want := api.Reply{Code: c.code, Fields: []api.Field{{Name: "a", Value: "b"}}}
			for _, behind := range []string{"", "x", "12345", "3\r\nabc\r\n0\r\n\r\n", "zz", string(some(30000))} {
				checkReadTell(t, head+behind, c.h, want, len(head))
			}
			for n := range len(head) {
				refuseReadTell(t, head[:n], c.h, api.ErrShort)
			}
		}
		// The head is as of others.
		head := fmt.Sprintf("EDGE/1 %d\r\n", c.code)
		refuseReadTell(t, head+"length: 8001", c.h, api.ErrFull)
		refuseReadTell(t, head+"length: 01", c.h, api.ErrSyntax)
		refuseReadTell(t, head+"length: 1\r\na", c.h, api.ErrSyntax)
		refuseReadTell(t, head+"coding: none\r\n", c.h, api.ErrSyntax)
		refuseReadTell(t, head+lines(list(41)), c.h, api.ErrFull)
		refuseReadTell(t, wide(head, api.MaxInput+1), c.h, api.ErrFull)
	}
}

// Codes beside those that have no body have one.
func TestReadTellWithBody(t *testing.T) {
	for _, code := range rightCodes {
		if slices.Contains(silentCodes, code) {
			continue
		}
		s := fmt.Sprintf("EDGE/1 %d\r\nlength: 3\r\n\r\nabc", code)
		checkReadTell(t, s+"d", how{}, api.Reply{Code: code, Body: []byte("abc")}, len(s))
		refuseReadTell(t, s[:len(s)-1], how{}, api.ErrShort)
	}
}

func TestReadTellTillTheEnd(t *testing.T) {
	for _, head := range []string{"EDGE/1 200\r\n\r\n", "EDGE/1 200\r\na: b\r\n\r\n"} {
		var l []api.Field
		if strings.Contains(head, "a: b") {
			l = []api.Field{{Name: "a", Value: "b"}}
		}
		for _, body := range []string{"", "x", "\r\n", "\r\n\r\n", "length: 3\r\n\r\nabc", "3\r\nabc\r\n0\r\n\r\n", toldLength, string(some(8000)), string(some(8001)), string(some(api.MaxInput)), string(some(1 << 17))} {
			s := head + body
			checkReadTell(t, s, how{false, true}, api.Reply{Code: 200, Fields: l, Body: []byte(body)}, len(s))
			want := api.ErrShort
			if len(s) > api.MaxInput {
				want = api.ErrFull
			}
			refuseReadTell(t, s, how{false, false}, want)
		}
	}
}

// tellSteps are all of a reply's head.
func tellSteps() []step {
	l := literal("", "EDGE/1 ")
	l = append(l, step{"EDGE/1 ", within("12345")})
	for _, s := range []string{"1", "2", "3", "4", "5", "10", "20", "30", "59", "51"} {
		l = append(l, step{"EDGE/1 " + s, within("0123456789")})
	}
	l = append(l, literal("EDGE/1 200", "\r\n")...)
	l = append(l, fieldSteps("EDGE/1 200\r\n", "length", "coding")...)
	for _, ahead := range []string{"EDGE/1 200\r\n", "EDGE/1 599\r\na: b\r\n"} {
		l = append(l, lengthSteps(ahead, "0123456789")...)
		l = append(l, literal(ahead+"length: 0", "\r\n\r")...)
		l = append(l, literal(ahead+"coding:", " chunked\r\n\r\n")...)
	}
	return l
}

// Each of the 256 bytes behind each kind of bytes that are right so far.
func TestReadTellEachByte(t *testing.T) {
	for _, p := range tellSteps() {
		for _, closed := range []bool{false, true} {
			h := how{false, closed}
			refuseReadTell(t, p.ahead, h, api.ErrShort)
			for c := range 256 {
				if p.may(c) {
					refuseReadTell(t, p.ahead+one(c), h, api.ErrShort)
					continue
				}
				refuseReadTell(t, p.ahead+one(c), h, api.ErrSyntax)
				refuseReadTell(t, p.ahead+one(c)+toldLength, h, api.ErrSyntax)
				refuseReadTell(t, p.ahead+one(c)+string(some(api.MaxInput)), h, api.ErrSyntax)
			}
		}
	}
	// The last byte of a head.
	for _, ahead := range []string{"EDGE/1 200\r\n\r", "EDGE/1 200\r\na: b\r\n\r", "EDGE/1 200\r\nlength: 0\r\n\r", "EDGE/1 204\r\n\r"} {
		for c := range 256 {
			if c != '\n' {
				for _, h := range allWays() {
					refuseReadTell(t, ahead+one(c), h, api.ErrSyntax)
				}
			}
		}
	}
}

func TestReadTellWrongForms(t *testing.T) {
	const head = "EDGE/1 200\r\n"
	for _, s := range []string{
		"EDGE/2 200\r\n", "edge/1 200\r\n", " EDGE/1 200", "EDGE/1  200\r\n", "EDGE/1 200 \r\n", "EDGE/1 200 OK\r\n", "EDGE/1 200\n", "EDGE/1\r\n", "GET / EDGE/1\r\n", "\r\n",
		"EDGE/1 0", "EDGE/1 099\r\n", "EDGE/1 99\r\n", "EDGE/1 6", "EDGE/1 600\r\n", "EDGE/1 20\r\n", "EDGE/1 2000\r\n", "EDGE/1 0200\r\n", "EDGE/1 -200\r\n", "EDGE/1 +20\r\n", "EDGE/1 2a0\r\n", "EDGE/1 20x\r\n", "EDGE/1 99999999999999999999\r\n",
		head + "host: h\r\n", head + "host:", head + "a:b", head + "a : b", head + "a:  b", head + "a: b \r\n", head + ": b", head + "a\r\n", head + "A: b\r\n", head + "a: b\n", head + "\n", head + " a: b\r\n",
		head + "length: 00", head + "length: 01", head + "length: 0\r\nlength: 0\r\n\r\n", head + "length: -0", head + "length: \r\n", head + "length:1", head + "Length: 1", head + "length: 1x", head + "length: 1 \r\n",
		head + "length: 1\r\na: b\r\n\r\nx", head + "length: 1\r\ncoding: chunked\r\n\r\n", head + "coding: chunked\r\nlength: 1\r\n\r\n", head + "coding: chunked\r\na: b\r\n\r\n0\r\n\r\n", head + "coding: chunked\r\ncoding: chunked\r\n\r\n0\r\n\r\n",
		head + "coding: \r\n", head + "coding: none\r\n", head + "coding: Chunked\r\n", head + "coding: chunke\r\n", head + "coding: chunkedx\r\n", head + "coding: chunked \r\n", head + "coding:  chunked\r\n", head + "coding: chunked, x\r\n",
	} {
		for _, h := range allWays() {
			refuseReadTell(t, s, h, api.ErrSyntax)
		}
	}
}

func TestReadTellTooManyFields(t *testing.T) {
	full := "EDGE/1 200\r\n" + lines(list(api.MaxFields))
	for _, c := range []struct {
		s    string
		want api.Errno
	}{
		{"", api.ErrShort}, {"a", api.ErrShort}, {"host", api.ErrShort}, {"coding", api.ErrShort}, {xs(most), api.ErrShort}, {"coding: chunked\r\n\r\n", api.ErrShort}, {"length: 1\r\n\r\n", api.ErrShort},
		{"a:", api.ErrFull}, {"a: b\r\n\r\n", api.ErrFull}, {"a:b", api.ErrFull}, {"lengths:", api.ErrFull}, {"codings:", api.ErrFull}, {xs(most) + ":", api.ErrFull}, {"a: \x00", api.ErrFull}, {"length: 8001", api.ErrFull},
		{"A:", api.ErrSyntax}, {":", api.ErrSyntax}, {"a b:", api.ErrSyntax}, {xs(most+1) + ":", api.ErrSyntax}, {"host:", api.ErrSyntax}, {"coding: c:", api.ErrSyntax}, {"length: 1\r\na:", api.ErrSyntax},
	} {
		for _, closed := range []bool{false, true} {
			refuseReadTell(t, full+c.s, how{false, closed}, c.want)
			if c.want != api.ErrShort {
				refuseReadTell(t, full+c.s+string(some(api.MaxInput)), how{false, closed}, c.want)
			}
		}
	}
	refuseReadTell(t, "EDGE/1 200\r\n"+lines(list(41))+"A\r\n", how{}, api.ErrFull)
	refuseReadTell(t, "EDGE/1 200\r\n"+lines(list(39))+"B: c\r\n"+lines(list(9)), how{}, api.ErrSyntax)
}

func TestReadTellLength(t *testing.T) {
	for _, n := range []int{0, 1, 9, 10, 80, 100, 999, 1000, 7999, 8000} {
		s := fmt.Sprintf("EDGE/1 200\r\nlength: %d", n)
		whole := s + "\r\n\r\n" + string(some(n))
		for _, closed := range []bool{false, true} {
			refuseReadTell(t, s, how{false, closed}, api.ErrShort)
			checkReadTell(t, whole+"x", how{false, closed}, api.Reply{Code: 200, Body: some(n)}, len(whole))
			refuseReadTell(t, whole[:len(whole)-1], how{false, closed}, api.ErrShort)
		}
	}
	for _, s := range tooLong() {
		for _, behind := range []string{"", "\r", "\r\n\r\n", "x", "\r\n\r\n" + string(some(9000)), string(some(api.MaxInput))} {
			for _, h := range allWays() {
				refuseReadTell(t, toldHead+"length: "+s+behind, h, api.ErrFull)
			}
		}
	}
}

func TestReadTellWrongPieces(t *testing.T) {
	const head = toldHead + "coding: chunked\r\n\r\n"
	much := head + strings.TrimSuffix(inPiecesOf(some(8000), 4000, 4000), "0\r\n\r\n")
	for _, c := range []struct {
		s    string
		want api.Errno
	}{
		{head + "1f41", api.ErrFull}, {head + "1f41\r\n", api.ErrFull}, {head + "ffffffffffffffffffff", api.ErrFull}, {much + "1", api.ErrFull}, {much + "1\r\nx\r\n0\r\n\r\n", api.ErrFull}, {much + "ffX", api.ErrFull},
		{head + "01", api.ErrSyntax}, {head + "A", api.ErrSyntax}, {head + "1\r\nab", api.ErrSyntax}, {head + "1\n", api.ErrSyntax}, {head + "0\r\n0", api.ErrSyntax}, {head + "\r\n", api.ErrSyntax}, {head + "Xffff", api.ErrSyntax}, {much + "X", api.ErrSyntax},
		{much, api.ErrShort}, {much + "0\r\n", api.ErrShort}, {head + "1f40\r\n", api.ErrShort},
	} {
		for _, closed := range []bool{false, true} {
			refuseReadTell(t, c.s, how{false, closed}, c.want)
		}
	}
	checkReadTell(t, much+"0\r\n\r\n", how{}, api.Reply{Code: 200, Fields: toldReply().Fields, Body: some(8000)}, len(much)+5)
}

func TestReadTellInput(t *testing.T) {
	const head = "EDGE/1 200\r\n"
	for _, n := range []int{api.MaxInput - 1, api.MaxInput, api.MaxInput + 1, api.MaxInput + 2, 30000} {
		want := api.ErrShort
		if n > api.MaxInput {
			want = api.ErrFull
		}
		for _, closed := range []bool{false, true} {
			h := how{false, closed}
			refuseReadTell(t, wide(head, n), h, want)
			refuseReadTell(t, wide(head, n-1016)+"length: 8000\r\n\r\n"+string(some(1000)), h, want)
			refuseReadTell(t, wide(head, n-1025)+"coding: chunked\r\n\r\n1f40\r\n"+string(some(1000)), h, want)
			refuseReadTell(t, wide(head, n-10)+"abcdefghij", h, want)
			refuseReadTell(t, wide(head, n-10)+"a: 456789\r", h, want)
			refuseReadTell(t, wide(head, n-1)+"\n", h, api.ErrSyntax)
			// What is whole may have more bytes.
			whole := wide(head, n) + "length: 8000\r\n\r\n" + string(some(8000))
			if a, used, err := ReadTell([]byte(whole+"more"), false, closed); err != nil || used != len(whole) || !bytes.Equal(a.Body, some(8000)) || head+lines(a.Fields) != wide(head, n) {
				t.Errorf("ReadTell of %d bytes: got %d %v", len(whole), used, err)
			}
			refuseReadTell(t, whole[:len(whole)-1], h, api.ErrFull)
		}
	}
	// Pieces of one byte are above it by far.
	s := head + "coding: chunked\r\n\r\n" + inPiecesOf(some(8000), each(8000, 1)...)
	checkReadTell(t, s, how{}, api.Reply{Code: 200, Body: some(8000)}, len(s))
	refuseReadTell(t, s[:api.MaxInput], how{}, api.ErrShort)
	refuseReadTell(t, s[:api.MaxInput+1], how{}, api.ErrFull)
	refuseReadTell(t, s[:len(s)-1], how{false, true}, api.ErrFull)
}

func TestTellLeavesTheReply(t *testing.T) {
	for _, code := range []int{200, 99} {
		for _, size := range []int{0, 7, 9000, -1} {
			fields, body := list(10), some(100)
			b, _ := Tell(api.Reply{Code: code, Fields: fields[:5], Body: body[:50]}, size)
			fill(b, 'x')
			if !slices.Equal(fields, list(10)) || !bytes.Equal(body, some(100)) {
				t.Errorf("Tell of %d by %d has written into what it was handed", code, size)
			}
		}
	}
}

func TestTellIsNewMemory(t *testing.T) {
	for _, n := range []int{0, 1, 1000} {
		for _, size := range []int{0, 7, 9000} {
			r := api.Reply{Code: 200, Fields: list(3), Body: some(n)}
			a, _ := Tell(r, size)
			b, _ := Tell(r, size)
			want := bytes.Clone(b)
			fill(a, 'x')
			fill(r.Body, 'x')
			fill(r.Fields, api.Field{})
			if !bytes.Equal(b, want) || len(want) < n {
				t.Errorf("Tell with %d bytes by %d: what came out is not its own", n, size)
			}
		}
	}
}

func TestReadTellIsNewMemory(t *testing.T) {
	for _, s := range []string{toldLength, toldPieces, toldHead + "\r\n" + string(toldReply().Body)} {
		b := []byte(s + "behind")
		first, _, _ := ReadTell(b[:len(s)], false, true)
		second, _, _ := ReadTell(b[:len(s)], false, true)
		fill(first.Fields, api.Field{})
		fill(first.Body, 'x')
		if string(b) != s+"behind" {
			t.Error("ReadTell has written into what it was handed, or gave it out")
		}
		fill(b, 'x')
		if !sameTell(second, toldReply()) {
			t.Error("ReadTell: what came out is not its own")
		}
	}
}

// What lies behind a list's length is not read, though it would go on rightly.
func TestReadTellReadsNoneBehindTheLength(t *testing.T) {
	for _, s := range []string{toldLength, toldPieces} {
		b := []byte(s)
		for n := range b {
			if a, used, err := ReadTell(b[:n], false, true); used != 0 || !sameTell(a, api.Reply{}) || plain.Told(err) != api.ErrShort {
				t.Errorf("ReadTell of the first %d bytes: got %v %d %v, want ErrShort", n, a, used, err)
			}
		}
	}
}
