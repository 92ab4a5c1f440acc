package fields

import (
	"slices"
	"strconv"
	"strings"
	"testing"

	"tollgate/api"
)

func TestTell(t *testing.T) {
	for _, own := range [][]string{
		nil,
		{"a", "b"},
		{"a", ""},
		{"b", "1", "a", "2", "b", "1"},
		{"cookie", "a; b", "cookie", "c"},
		{"a", ":code", "code", "length"},
		{"lengths", "1", "connections", "a"},
	} {
		checkTell(t, ok(own...), append(coded(own...), f("length", "0")))
		for _, n := range []int{1, 9, 10, 100, 1000, api.MaxBody} {
			r := ok(own...)
			r.Body = some(n)
			checkTell(t, r, append(coded(own...), f("length", strconv.Itoa(n))))
		}
	}
	checkTell(t, api.Reply{Code: 200, Fields: []api.Field{}, Body: []byte{}}, list(":code", "200", "length", "0"))
}

func TestTellCodes(t *testing.T) {
	for code := -1000; code <= 2000; code++ {
		for _, n := range []int{0, 3} {
			r := api.Reply{Code: code, Fields: list("a", "b"), Body: some(n)}
			want := list(":code", strconv.Itoa(code), "a", "b")
			if code >= 200 && code != 204 && code != 304 {
				want = append(want, f("length", strconv.Itoa(n)))
			}
			if code < 100 || code > 599 {
				refuseTell(t, r, api.ErrRange)
			} else {
				checkTell(t, r, want)
			}
		}
	}
	for _, code := range []int{-1 << 63, 1<<63 - 1, 1<<32 + 200, -200, 0} {
		refuseTell(t, api.Reply{Code: code}, api.ErrRange)
	}
}

func TestTellClean(t *testing.T) {
	for _, c := range []struct {
		own, left []string
	}{
		{[]string{"connection", "a"}, nil},
		{[]string{"keep", "5"}, nil},
		{[]string{"upgrade", "x"}, nil},
		{[]string{"a", "1", "connection", "b, c", "b", "2", "d", "3", "c", "4", "keep", "5"}, []string{"a", "1", "d", "3"}},
		{[]string{"c", "1", "b", "2", "connection", "b", "connection", "c"}, nil},
		{[]string{"connection", "length", "a", "1"}, []string{"a", "1"}},
		{[]string{"connection", "a,b", "a", "1", "b", "2"}, []string{"a", "1", "b", "2"}},
	} {
		// The length that is told is not one of those that are left out.
		checkTell(t, ok(c.own...), append(coded(c.left...), f("length", "0")))
		r := api.Reply{Code: 304, Fields: list(c.own...), Body: some(3)}
		checkTell(t, r, append(list(":code", "304"), list(c.left...)...))
	}
	// Chapter 10's errors are those of all fields.
	for _, c := range []struct {
		own  []string
		want api.Errno
	}{
		{[]string{"length", "0"}, api.ErrShape},
		{[]string{"coding", "chunked"}, api.ErrShape},
		{[]string{"host", "h"}, api.ErrShape},
		{[]string{"connection", "length", "length", "0"}, api.ErrShape},
		{[]string{"keep", "5 "}, api.ErrSyntax},
		{[]string{"connection", "a, "}, api.ErrSyntax},
		{[]string{"connection", "a", "a", "\n"}, api.ErrSyntax},
		{[]string{"Connection", "a"}, api.ErrSyntax},
	} {
		refuseTell(t, ok(c.own...), c.want)
	}
}

func TestTellMany(t *testing.T) {
	for _, n := range []int{1, api.MaxFields - 1, api.MaxFields} {
		r := ok()
		r.Fields = many(n)
		checkTell(t, r, append(append(coded(), many(n)...), f("length", "0")))
	}
	for _, n := range []int{api.MaxFields + 1, api.MaxFields + 2, 1000} {
		r := ok()
		r.Fields = many(n)
		refuseTell(t, r, api.ErrFull)
		r.Fields = slices.Repeat(list("keep", "5"), n)
		refuseTell(t, r, api.ErrFull)
	}
	r := ok()
	r.Body = some(api.MaxBody + 1)
	refuseTell(t, r, api.ErrFull)
	r.Code = 204
	refuseTell(t, r, api.ErrFull)
}

func TestTellTexts(t *testing.T) {
	for _, own := range [][]string{
		{"", "a"}, {"A", "a"}, {"a b", "a"}, {":code", "200"}, {":x", "a"}, {"\n", "a"}, {long(api.MaxText + 1), "a"},
		{"a", " b"}, {"a", "b "}, {"a", "\n"}, {"a", "\x7f"}, {"a", "\xe9"}, {"a", long(api.MaxText + 1)},
	} {
		refuseTell(t, ok(own...), api.ErrSyntax)
		refuseTell(t, ok("a", "b", own[0], own[1], "c", "d"), api.ErrSyntax)
	}
	r := ok(long(api.MaxText), long(api.MaxText))
	checkTell(t, r, coded(long(api.MaxText), long(api.MaxText), "length", "0"))
}

func TestTellWhichFirst(t *testing.T) {
	wrong := api.Reply{Code: 99, Fields: list("host", "h", "A", "a"), Body: some(api.MaxBody + 1)}
	refuseTell(t, wrong, api.ErrFull)
	wrong.Body = nil
	refuseTell(t, wrong, api.ErrRange)
	wrong.Code = 100
	refuseTell(t, wrong, api.ErrShape)
	slices.Reverse(wrong.Fields)
	refuseTell(t, wrong, api.ErrSyntax)
	wrong.Code = 600
	refuseTell(t, wrong, api.ErrRange)
	wrong.Fields = append(wrong.Fields, many(api.MaxFields)...)
	refuseTell(t, wrong, api.ErrFull)
	refuseTell(t, ok("length", "1 "), api.ErrSyntax)
}

func TestReply(t *testing.T) {
	for _, own := range [][]string{
		nil,
		{"a", "b"},
		{"a", ""},
		{"b", "1", "a", "2", "b", "1"},
		{"cookie", "a; b", "x", "1", "cookie", "c"},
		{"a", ":code", "code", "200", "method", "GET"},
		// These are none of chapter 10's errors, nor are they left out.
		{"connection", "a, b", "a", "1", "keep", "5", "upgrade", "x"},
		{"lengths", "1"},
	} {
		for _, n := range []int{0, 1, 20, api.MaxBody} {
			checkReply(t, coded(own...), some(n), ok(own...))
		}
	}
	checkReply(t, coded(), []byte{}, ok())
	checkReply(t, list(":code", "204"), some(3), api.Reply{Code: 204})
}

func TestReplyLead(t *testing.T) {
	refuseReply(t, nil, nil, api.ErrShape)
	refuseReply(t, []api.Field{}, some(3), api.ErrShape)
	refuseReply(t, list("a", "b"), nil, api.ErrShape)
	refuseReply(t, list("code", "200"), nil, api.ErrShape)
	refuseReply(t, list("a", "b", ":code", "200"), nil, api.ErrShape)
	refuseReply(t, list("", "", ":code", "200"), nil, api.ErrShape)
	refuseReply(t, list("length", "0", ":code", "200"), nil, api.ErrShape)
	refuseReply(t, list(":code", "200", ":code", "200"), nil, api.ErrShape)
	refuseReply(t, list(":code", "200", ":code", "404"), nil, api.ErrShape)
	refuseReply(t, list(":code", "200", "a", "b", ":code", "200"), nil, api.ErrShape)
	refuseReply(t, led(), nil, api.ErrShape)
	for _, name := range []string{":", "::", ":x", ":Code", ":CODE", ":code ", ":cod", ":codes", "::code", ":method", ":path", ":host", ":length", ":\x00", ":" + long(1000)} {
		refuseReply(t, list(name, "200"), nil, api.ErrShape)
		refuseReply(t, list(name, "200", ":code", "200"), nil, api.ErrShape)
		refuseReply(t, coded(name, "200"), nil, api.ErrShape)
		refuseReply(t, coded("a", "b", name, ""), nil, api.ErrShape)
		refuseReply(t, coded("a", "b", name, "", "c", "d"), nil, api.ErrShape)
	}
}

func TestReplyCodes(t *testing.T) {
	for n := range 10000 {
		if n >= 100 && n <= 599 {
			checkReply(t, list(":code", strconv.Itoa(n), "a", "b"), nil, api.Reply{Code: n, Fields: list("a", "b")})
		} else {
			refuseReply(t, list(":code", strconv.Itoa(n), "a", "b"), nil, api.ErrSyntax)
		}
	}
	for _, value := range []string{"", "0", "20", "099", "000", "001", "0100", "0200", "00200", "2000", "1000", "+20", "-20", "+200", "-200", "-00",
		" 20", "20 ", " 200", "200 ", "2 0", "2x0", "x20", "20x", "0x1", "1e2", "2.0", "1_0", "20\x00", "\x0020", "20\n", "200\n", "２00", "٢٠٠", "ab", "abc", "18446744073709551816", long(1000)} {
		refuseReply(t, list(":code", value), nil, api.ErrSyntax)
		refuseReply(t, list(":code", value, "a", "b"), some(3), api.ErrSyntax)
	}
	// Each byte at each place.
	for at := range 3 {
		for c := range 256 {
			value := []byte("234")
			value[at] = byte(c)
			if c >= '0' && c <= '9' && (at > 0 || c >= '1' && c <= '5') {
				code, _ := strconv.Atoi(string(value))
				checkReply(t, list(":code", string(value)), nil, api.Reply{Code: code})
			} else {
				refuseReply(t, list(":code", string(value)), nil, api.ErrSyntax)
			}
		}
	}
}

// Whatever a length says, it is left out.
func TestReplyLength(t *testing.T) {
	for _, value := range []string{"3", "0", "4", "03", "+3", "-1", "", "x", "\n", " ", long(api.MaxText + 1)} {
		checkReply(t, coded("length", value), some(3), ok())
		checkReply(t, coded("length", value, "a", "b"), some(3), ok("a", "b"))
		checkReply(t, coded("a", "b", "length", value, "c", "d", "length", "3", "length", value), some(3), ok("a", "b", "c", "d"))
	}
	refuseReply(t, coded("Length", "3"), some(3), api.ErrSyntax)
}

func TestReplyRefused(t *testing.T) {
	for _, own := range [][]string{
		{"", "a"}, {"A", "a"}, {"a b", "a"}, {"a:", "a"}, {" :code", "a"}, {"\n", "a"}, {long(api.MaxText + 1), "a"},
		{"a", " b"}, {"a", "b "}, {"a", "\n"}, {"a", "\x7f"}, {"a", "\xe9"}, {"a", long(api.MaxText + 1)}, {"host", "h "},
	} {
		refuseReply(t, coded(own...), nil, api.ErrSyntax)
		refuseReply(t, coded("a", "b", own[0], own[1], "c", "d"), nil, api.ErrSyntax)
	}
	for _, name := range []string{"host", "coding"} {
		refuseReply(t, coded(name, "chunked"), nil, api.ErrShape)
		refuseReply(t, coded("a", "b", name, ""), nil, api.ErrShape)
		checkReply(t, coded(name+"s", "a"), nil, ok(name+"s", "a"))
	}
	checkReply(t, coded(long(api.MaxText), long(api.MaxText)), nil, ok(long(api.MaxText), long(api.MaxText)))
}

// The bound is that of the fields that come.
func TestReplyMany(t *testing.T) {
	for _, n := range []int{1, api.MaxFields - 1, api.MaxFields} {
		checkReply(t, append(coded(), many(n)...), nil, api.Reply{Code: 200, Fields: many(n)})
		l := append(coded("length", "x"), many(n)...)
		checkReply(t, append(l, f("length", "3")), some(3), api.Reply{Code: 200, Fields: many(n)})
	}
	for _, n := range []int{api.MaxFields + 1, api.MaxFields + 2, 1000} {
		refuseReply(t, append(coded(), many(n)...), nil, api.ErrFull)
	}
	// Cookies of a reply stay as many as they are.
	refuseReply(t, append(coded(), slices.Repeat(list("cookie", "a"), api.MaxFields+1)...), nil, api.ErrFull)
	checkReply(t, coded(), some(api.MaxBody), ok())
	refuseReply(t, coded(), some(api.MaxBody+1), api.ErrFull)
	refuseReply(t, list(":code", "204"), some(api.MaxBody+1), api.ErrFull)
}

func TestReplyWhichFirst(t *testing.T) {
	big := some(api.MaxBody + 1)
	full := many(api.MaxFields + 1)
	refuseReply(t, append(list(":code", "2x0", "A", "a", "host", "h", ":x", ""), full...), big, api.ErrShape)
	refuseReply(t, append(list("A", "a", ":code", "2x0"), full...), big, api.ErrShape)
	refuseReply(t, append(list("A", "a"), full...), big, api.ErrShape)
	refuseReply(t, append(list(":code", "2x0", "host", "h"), full...), big, api.ErrSyntax)
	refuseReply(t, list(":code", "99", "host", "h"), big, api.ErrSyntax)
	refuseReply(t, list(":code", "600", "host", "h"), nil, api.ErrSyntax)
	refuseReply(t, list(":code", "", "coding", "x"), nil, api.ErrSyntax)
	refuseReply(t, append(coded("A", "a", "host", "h"), full...), nil, api.ErrFull)
	refuseReply(t, coded("host", "h", "A", "a"), big, api.ErrFull)
	refuseReply(t, coded("A", "a", "host", "h"), nil, api.ErrSyntax)
	refuseReply(t, coded("host", "h", "A", "a"), nil, api.ErrShape)
	refuseReply(t, coded("length", "\n", "host", "h", "A", "a"), nil, api.ErrShape)
}

// What Tell tells, Reply makes the reply of, without what is not Clean.
func TestTellReply(t *testing.T) {
	for _, code := range []int{100, 199, 200, 204, 304, 404, 599} {
		for _, n := range []int{0, 1, api.MaxBody} {
			r := api.Reply{Code: code, Fields: list("a", "1", "connection", "b", "b", "2", "cookie", "a; b", "keep", "5"), Body: some(n)}
			l, err := Tell(r)
			if err != nil {
				t.Fatal(err)
			}
			checkReply(t, l, r.Body, api.Reply{Code: code, Fields: list("a", "1", "cookie", "a; b")})
		}
	}
}

func TestClean(t *testing.T) {
	for _, c := range []struct {
		l, want []string
	}{
		{nil, nil},
		{[]string{"a", "b"}, []string{"a", "b"}},
		{[]string{"c", "1", "a", "2", "b", "3", "a", "2"}, []string{"c", "1", "a", "2", "b", "3", "a", "2"}},
		// Any names and values are taken.
		{[]string{":code", "x", "", "", "A b", "\n", "host", "h", "cookie", "a; b"}, []string{":code", "x", "", "", "A b", "\n", "host", "h", "cookie", "a; b"}},
		{[]string{"a", "connection", "b", "length"}, []string{"a", "connection", "b", "length"}},
		{[]string{"keep", "a, b", "a", "1", "upgrade", "a", "coding", "a", "length", "a"}, []string{"a", "1"}},
	} {
		checkClean(t, list(c.l...), list(c.want...))
	}
	checkClean(t, []api.Field{}, nil)
	for _, name := range []string{"connection", "coding", "keep", "upgrade", "length"} {
		for _, value := range []string{"", "x", "5", "\n"} {
			checkClean(t, list(name, value), nil)
			checkClean(t, list(name, value, "b", "1", "a", "2"), list("b", "1", "a", "2"))
			checkClean(t, list("b", "1", name, value, "a", "2"), list("b", "1", "a", "2"))
			checkClean(t, list("b", "1", "a", "2", name, value), list("b", "1", "a", "2"))
			checkClean(t, list(name, value, "b", "1", name, value, name, value, "a", "2", name, value), list("b", "1", "a", "2"))
		}
		for _, other := range []string{strings.ToUpper(name), name + "s", name[1:], name[:len(name)-1], " " + name, ":" + name} {
			checkClean(t, list(other, "a", "a", "b"), list(other, "a", "a", "b"))
		}
	}
}

func TestCleanNamed(t *testing.T) {
	rest := []string{"a", "1", "b", "2", "A", "3", "a", "4", "x_1", "5", "", "6", "a b", "7", "a,b", "8", " a", "9", ":code", "0", "c-d", ""}
	for _, c := range []struct {
		value, names string // names: what goes, each in |
	}{
		{"", "|"},
		{"a", "|a|"},
		{"b", "|b|"},
		{"A", "|A|"},
		{"x_1", "|x_1|"},
		{"c-d", "|c-d|"},
		{"a, b", "|a|b|"},
		{"b, a", "|a|b|"},
		{"a, a", "|a|"},
		{"b, x_1, c-d, A", "|b|x_1|c-d|A|"},
		{"none", "|"},
		{"none, nor, this", "|"},
		{"none, b", "|b|"},
		// Pieces that are no Token.
		{"a,b", "|"},
		{"a,  b", "|a|"},
		{"a , b", "|b|"},
		{"a,b, b", "|b|"},
		{" a", "|"},
		{"a b", "|"},
		{"a b, a", "|a|"},
		{":code", "|"},
		{":code, a", "|a|"},
		{"a;b, b", "|b|"},
		{"a\x00, b", "|b|"},
		{"\n, b", "|b|"},
		// Nothing ahead, between or behind.
		{", ", "|"},
		{", a", "|a|"},
		{"a, ", "|a|"},
		{"a, , b", "|a|b|"},
		{", , a, , ", "|a|"},
		{"a,", "|"},
		{",a", "|"},
		{",", "|"},
		{", ,", "|"},
		{"a, b,", "|a|"},
	} {
		left := func(f api.Field) bool { return !strings.Contains(c.names, "|"+f.Name+"|") || f.Name == "" }
		var want []api.Field
		for _, f := range list(rest...) {
			if left(f) {
				want = append(want, f)
			}
		}
		for at := range len(list(rest...)) + 1 {
			checkClean(t, slices.Insert(list(rest...), at, f("connection", c.value)), want)
		}
		two := append(list("connection", "nor"), list(rest...)...)
		checkClean(t, append(two, f("connection", c.value), f("connection", "")), want)
	}
}

func TestCleanConnections(t *testing.T) {
	for _, c := range []struct {
		l, want []string
	}{
		{[]string{"connection", "a", "a", "1", "b", "2", "c", "3", "connection", "c"}, []string{"b", "2"}},
		{[]string{"a", "1", "connection", "b", "connection", "a", "b", "2", "c", "3"}, []string{"c", "3"}},
		// One that another names names what it names.
		{[]string{"connection", "connection", "connection", "a", "a", "1"}, nil},
		{[]string{"connection", "a", "a", "1", "connection", "connection"}, nil},
		{[]string{"connection", "connection, a", "a", "1", "b", "2"}, []string{"b", "2"}},
		// A field that goes names nothing, if it is no connection.
		{[]string{"connection", "a", "a", "b", "b", "2"}, []string{"b", "2"}},
		{[]string{"connection", "keep", "keep", "b", "b", "2"}, []string{"b", "2"}},
		{[]string{"connection", "host, cookie, length", "host", "h", "cookie", "a", "length", "3", "b", "2"}, []string{"b", "2"}},
		{[]string{"Connection", "a", "a", "1"}, []string{"Connection", "a", "a", "1"}},
		{[]string{"connection", "Connection", "Connection", "a", "a", "1"}, []string{"a", "1"}},
	} {
		checkClean(t, list(c.l...), list(c.want...))
	}
	// The longest Token, and one byte more, which is none.
	for _, n := range []int{1, api.MaxText - 1, api.MaxText} {
		checkClean(t, list("connection", "a, "+long(n), long(n), "1", "b", "2"), list("b", "2"))
	}
	n := api.MaxText + 1
	checkClean(t, list("connection", "b, "+long(n), long(n), "1", "b", "2"), list(long(n), "1"))
	// A Value may have any length.
	checkClean(t, list("a", "1", "b", "2", "connection", strings.Repeat("x, ", 10000)+"a"), list("b", "2"))
}
