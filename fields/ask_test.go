package fields

import (
	"slices"
	"strconv"
	"strings"
	"testing"

	"tollgate/api"
)

func TestAsk(t *testing.T) {
	for _, own := range [][]string{
		nil,
		{"a", "b"},
		{"a", ""},
		{"b", "1", "a", "2", "b", "1"},
		{"a", "x; y", "a", "z"},
		{"cookies", "x", "cookies", "y"},
		{"x_1", ":method", "method", "GET", "path", "/", "code", "200"},
		{"a", "connection", "b", "host", "c", ":path"},
		{"connections", "a", "codin", "b", "keep-alive", "c", "upgrade-", "d", "hosts", "e", "lengths", "f"},
	} {
		for _, n := range []int{0, 1, 20, api.MaxBody} {
			checkAsk(t, led(own...), some(n), put(own...))
		}
	}
	l := list(":method", "GeT_1", ":path", "*", ":host", "a  b:80", "a", "1")
	checkAsk(t, l, nil, api.Request{Method: "GeT_1", Path: "*", Host: "a  b:80", Fields: list("a", "1")})
	checkAsk(t, l, []byte{}, api.Request{Method: "GeT_1", Path: "*", Host: "a  b:80", Fields: list("a", "1")})
}

// The three stand in any order, ahead of all others.
func TestAskLead(t *testing.T) {
	three := led()
	for _, order := range [][3]int{{0, 1, 2}, {0, 2, 1}, {1, 0, 2}, {1, 2, 0}, {2, 0, 1}, {2, 1, 0}} {
		l := []api.Field{three[order[0]], three[order[1]], three[order[2]]}
		checkAsk(t, l, nil, put())
		checkAsk(t, append(l, f("a", "b")), some(3), put("a", "b"))
		for i := range l {
			missing := slices.Delete(slices.Clone(l), i, i+1)
			refuseAsk(t, missing, nil, api.ErrShape)
			refuseAsk(t, append(missing, f("a", "b")), nil, api.ErrShape)
			refuseAsk(t, append(missing, f("a", "b"), l[i]), nil, api.ErrShape)
			for at := range len(l) + 1 {
				refuseAsk(t, slices.Insert(slices.Clone(l), at, l[i]), nil, api.ErrShape)
				refuseAsk(t, slices.Insert(slices.Clone(l), at, f(l[i].Name, "x")), nil, api.ErrShape)
				refuseAsk(t, append(slices.Insert(slices.Clone(l), at, l[i]), f("a", "b")), nil, api.ErrShape)
			}
			twice := slices.Clone(l)
			twice[i] = l[(i+1)%3]
			refuseAsk(t, twice, nil, api.ErrShape)
			refuseAsk(t, slices.Insert(slices.Clone(l), i, f("a", "b")), nil, api.ErrShape)
			refuseAsk(t, slices.Insert(slices.Clone(l), i, f("", "b")), nil, api.ErrShape)
			refuseAsk(t, slices.Insert(slices.Clone(l), i, f("cookie", "b")), nil, api.ErrShape)
			refuseAsk(t, slices.Insert(slices.Clone(l), i, f("length", "0")), nil, api.ErrShape)
			refuseAsk(t, append(slices.Clone(l), f("a", "b"), l[i]), nil, api.ErrShape)
		}
	}
	refuseAsk(t, nil, nil, api.ErrShape)
	refuseAsk(t, []api.Field{}, some(3), api.ErrShape)
	refuseAsk(t, list("a", "b"), nil, api.ErrShape)
	refuseAsk(t, list("method", "GET", "path", "/", "host", "h"), nil, api.ErrShape)
}

func TestAskOtherLead(t *testing.T) {
	for _, name := range []string{":", "::", ":code", ":Method", ":METHOD", ":method ", ":metho", ":methods", ":pat", ":paths", ":hos", ":hosts", ":length", ":cookie", ": method", "::method", ":\x00", ":" + long(1000)} {
		for at := range len(led()) + 1 {
			refuseAsk(t, slices.Insert(led(), at, f(name, "x")), nil, api.ErrShape)
			refuseAsk(t, slices.Insert(led(), at, f(name, "")), nil, api.ErrShape)
		}
		refuseAsk(t, led("a", "b", name, "x"), nil, api.ErrShape)
		for at := range led() {
			l := led()
			l[at].Name = name
			refuseAsk(t, l, nil, api.ErrShape)
		}
	}
	// These do not begin so.
	for _, name := range []string{" :method", "a:", "", "Method"} {
		refuseAsk(t, led(name, "x"), nil, api.ErrSyntax)
	}
}

func TestAskMayNot(t *testing.T) {
	for _, name := range []string{"connection", "coding", "keep", "upgrade", "host"} {
		for _, value := range []string{"", "a", "h", "chunked", "0", "\n"} {
			refuseAsk(t, led(name, value), nil, api.ErrShape)
			refuseAsk(t, led(name, value, "a", "b"), nil, api.ErrShape)
			refuseAsk(t, led("a", "b", name, value, "a", "b"), nil, api.ErrShape)
			refuseAsk(t, led("a", "b", name, value), nil, api.ErrShape)
		}
		// With a great letter it is another name, and none that may be.
		refuseAsk(t, led(strings.ToUpper(name), "a"), nil, api.ErrSyntax)
		checkAsk(t, led(name+"s", "a"), nil, put(name+"s", "a"))
		checkAsk(t, led("x"+name, "a"), nil, put("x"+name, "a"))
		checkAsk(t, led(name[1:], "a"), nil, put(name[1:], "a"))
	}
}

func TestAskLength(t *testing.T) {
	for _, n := range []int{0, 1, 9, 10, 11, 99, 100, 999, 1000, api.MaxBody} {
		right, body := strconv.Itoa(n), some(n)
		checkAsk(t, led("length", right), body, put())
		checkAsk(t, led("length", right, "a", "b"), body, put("a", "b"))
		checkAsk(t, led("a", "b", "length", right, "c", "d"), body, put("a", "b", "c", "d"))
		checkAsk(t, led("a", "b", "length", right), body, put("a", "b"))
		checkAsk(t, led("length", right, "a", "b", "length", right), body, put("a", "b"))
		for _, wrong := range []string{strconv.Itoa(n + 1), strconv.Itoa(n - 1), "0" + right, "00" + right, "+" + right, "-" + right,
			" " + right, right + " ", right + "0", right + ".", right + "x", "x" + right, "", "-", "+", "x", "0x" + right, right + "e0",
			right + "_", "1_0", right + ", " + right, right + "\x00", "18446744073709551616" + right, long(n + 500)} {
			refuseAsk(t, led("length", wrong), body, api.ErrShape)
			refuseAsk(t, led("length", right, "a", "b", "length", wrong), body, api.ErrShape)
			refuseAsk(t, led("length", wrong, "a", "b", "length", right), body, api.ErrShape)
		}
	}
	refuseAsk(t, led("length", "18446744073709551619"), some(3), api.ErrShape)
	refuseAsk(t, led("Length", "3"), some(3), api.ErrSyntax)
}

func TestAskCookies(t *testing.T) {
	for _, c := range []struct {
		own, want []string
	}{
		{[]string{"cookie", "a"}, []string{"cookie", "a"}},
		{[]string{"cookie", ""}, []string{"cookie", ""}},
		{[]string{"cookie", "a; b"}, []string{"cookie", "a; b"}},
		{[]string{"cookie", "a", "cookie", "b"}, []string{"cookie", "a; b"}},
		{[]string{"cookie", "a", "cookie", "a"}, []string{"cookie", "a; a"}},
		{[]string{"cookie", "c", "cookie", "b", "cookie", "a"}, []string{"cookie", "c; b; a"}},
		{[]string{"cookie", "a; b", "cookie", "c"}, []string{"cookie", "a; b; c"}},
		{[]string{"cookie", "", "cookie", "b"}, []string{"cookie", "; b"}},
		{[]string{"cookie", "a", "cookie", "", "cookie", "b"}, []string{"cookie", "a; ; b"}},
		{[]string{"x", "1", "cookie", "a", "cookie", "b"}, []string{"x", "1", "cookie", "a; b"}},
		{[]string{"cookie", "a", "x", "1", "cookie", "b"}, []string{"cookie", "a; b", "x", "1"}},
		{[]string{"cookie", "a", "cookie", "b", "x", "1"}, []string{"cookie", "a; b", "x", "1"}},
		{[]string{"x", "1", "cookie", "a", "y", "2", "cookie", "b", "z", "3", "cookie", "c", "x", "4"}, []string{"x", "1", "cookie", "a; b; c", "y", "2", "z", "3", "x", "4"}},
		{[]string{"x", "1", "y", "2", "cookie", "a", "z", "3"}, []string{"x", "1", "y", "2", "cookie", "a", "z", "3"}},
		{[]string{"x", "1", "length", "3", "cookie", "a", "length", "3", "y", "2", "cookie", "b"}, []string{"x", "1", "cookie", "a; b", "y", "2"}},
		// A blank at the edge of one is inside of the whole.
		{[]string{"cookie", "a", "cookie", " b"}, []string{"cookie", "a;  b"}},
		{[]string{"cookie", "a ", "cookie", "b"}, []string{"cookie", "a ; b"}},
		{[]string{"cookies", "a", "cookie", "b", "cooki", "c"}, []string{"cookies", "a", "cookie", "b", "cooki", "c"}},
	} {
		checkAsk(t, led(c.own...), []byte("tea"), put(c.want...))
	}
	for _, own := range [][]string{
		{"cookie", " a"},
		{"cookie", "a", "cookie", "b "},
		{"cookie", " a", "cookie", "b"},
		{"cookie", "a", "cookie", ""},
		{"cookie", "", "cookie", ""},
		{"cookie", "a", "x", "1", "cookie", ""},
		{"cookie", "a", "cookie", "\n", "cookie", "b"},
		{"Cookie", "a", "cookie", "b"},
	} {
		refuseAsk(t, led(own...), nil, api.ErrSyntax)
	}
}

// Texts that are right each may be too long in one.
func TestAskCookiesLong(t *testing.T) {
	whole := long(200) + "; " + long(198)
	checkAsk(t, led("cookie", long(200), "a", "b", "cookie", long(198)), nil, put("cookie", whole, "a", "b"))
	refuseAsk(t, led("cookie", long(200), "a", "b", "cookie", long(199)), nil, api.ErrSyntax)
	refuseAsk(t, led("cookie", long(api.MaxText), "cookie", "a"), nil, api.ErrSyntax)
	checkAsk(t, led("cookie", long(api.MaxText)), nil, put("cookie", long(api.MaxText)))
	refuseAsk(t, led("cookie", long(api.MaxText+1)), nil, api.ErrSyntax)
}

// The bound is that of the fields that come.
func TestAskMany(t *testing.T) {
	for _, n := range []int{1, api.MaxFields - 1, api.MaxFields} {
		r := put()
		r.Fields = many(n)
		checkAsk(t, append(led(), many(n)...), nil, r)
		l := append(led("length", "3"), many(n)...)
		checkAsk(t, append(l, f("length", "3")), some(3), r)
	}
	for _, n := range []int{api.MaxFields + 1, api.MaxFields + 2, 1000} {
		refuseAsk(t, append(led(), many(n)...), nil, api.ErrFull)
	}
	r := put("cookie", "a"+strings.Repeat("; a", 99))
	r.Fields = append(r.Fields, many(api.MaxFields-1)...)
	l := append(led("cookie", "a"), many(api.MaxFields-1)...)
	l = append(l, slices.Repeat(list("cookie", "a"), 99)...)
	checkAsk(t, l, nil, r)
	refuseAsk(t, append(l, f("a", "b")), nil, api.ErrFull)
	checkAsk(t, led(), some(api.MaxBody), put())
	refuseAsk(t, led(), some(api.MaxBody+1), api.ErrFull)
	refuseAsk(t, led("length", "8001"), some(api.MaxBody+1), api.ErrFull)
}

func TestAskTexts(t *testing.T) {
	for at, values := range [][]string{
		{"", "G T", " ", "GET ", "G\xc3", "/", long(api.MaxText + 1)},
		{"", "/a b", " ", "/ ", "/\x7f", "/\t", long(api.MaxText + 1)},
		{"", " h", "h ", " ", "h\r\n", "\xff", long(api.MaxText + 1)},
	} {
		for _, value := range values {
			l := led()
			l[at].Value = value
			refuseAsk(t, l, nil, api.ErrSyntax)
			refuseAsk(t, append(l, list("a", "b", "length", "3")...), some(3), api.ErrSyntax)
		}
		l := led()
		l[at].Value = long(api.MaxText)
		checkAsk(t, l, nil, api.Request{Method: l[0].Value, Path: l[1].Value, Host: l[2].Value})
	}
	for _, own := range [][]string{
		{"", "a"}, {"A", "a"}, {"a b", "a"}, {"a:", "a"}, {"\n", "a"}, {long(api.MaxText + 1), "a"},
		{"a", " b"}, {"a", "b "}, {"a", "\n"}, {"a", "\x7f"}, {"a", "\xe9"}, {"a", long(api.MaxText + 1)},
	} {
		refuseAsk(t, led(own...), nil, api.ErrSyntax)
		refuseAsk(t, led("a", "b", own[0], own[1], "c", "d"), nil, api.ErrSyntax)
	}
	checkAsk(t, led(long(api.MaxText), long(api.MaxText)), nil, put(long(api.MaxText), long(api.MaxText)))
}

func TestAskWhichFirst(t *testing.T) {
	big := some(api.MaxBody + 1)
	for _, bad := range [][]string{
		{"connection", "a"}, {"coding", "a"}, {"keep", "a"}, {"upgrade", "a"}, {"host", "a"}, {"length", "1"}, {":x", "a"}, {":path", "/"}, {":code", "200"},
	} {
		refuseAsk(t, led(append([]string{"A", "\n"}, bad...)...), nil, api.ErrShape)
		refuseAsk(t, led(append(bad, "A", "\n")...), nil, api.ErrShape)
		refuseAsk(t, led(append([]string{"cookie", "a", "cookie", ""}, bad...)...), nil, api.ErrShape)
		refuseAsk(t, led(bad...), big, api.ErrShape)
		l := append(led(), many(api.MaxFields+1)...)
		refuseAsk(t, append(l, f(bad[0], bad[1])), nil, api.ErrShape)
		l = led(bad...)
		l[0].Value, l[1].Value, l[2].Value = "", "", ""
		refuseAsk(t, l, nil, api.ErrShape)
	}
	// What is missing, and what a later field has.
	refuseAsk(t, list(":method", "", ":path", "", "A", "\n"), big, api.ErrShape)
	refuseAsk(t, list(":method", "GET", ":path", "/", "length", "7"), nil, api.ErrShape)
	refuseAsk(t, append(list(":method", "GET", ":host", "h"), many(api.MaxFields+1)...), big, api.ErrShape)
	// Of chapter 10's own ErrFull is first of all.
	wrong := list(":method", "", ":path", "", ":host", "", "A", "\n")
	refuseAsk(t, wrong, nil, api.ErrSyntax)
	refuseAsk(t, wrong, big, api.ErrFull)
	refuseAsk(t, append(wrong, many(api.MaxFields)...), nil, api.ErrFull)
	refuseAsk(t, append(wrong, many(api.MaxFields-1)...), nil, api.ErrSyntax)
}

// What List tells, Ask makes the request of; its cookies are one, then.
func TestListAsk(t *testing.T) {
	for _, own := range [][]string{
		nil,
		{"a", "b"},
		{"cookie", ""},
		{"cookie", "a"},
		{"a", "x; y", "cookie", "a; b; c", "b", ""},
		{"cookie", "; a; ; b"},
		{"cookie", "a;  b"},
	} {
		for _, n := range []int{0, 1, api.MaxBody} {
			r := put(own...)
			r.Body = some(n)
			l, err := List(r)
			if err != nil {
				t.Fatal(err)
			}
			checkAsk(t, l, r.Body, r)
			checkAsk(t, append(l, f("length", strconv.Itoa(n))), r.Body, r)
		}
	}
	l, err := List(put("a", "1", "cookie", "a; b", "b", "2", "cookie", "c"))
	if err != nil {
		t.Fatal(err)
	}
	checkAsk(t, l, nil, put("a", "1", "cookie", "a; b; c", "b", "2"))
	l, err = List(put("connection", "a"))
	if err != nil {
		t.Fatal(err)
	}
	refuseAsk(t, l, nil, api.ErrShape)
}
