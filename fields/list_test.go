package fields

import (
	"slices"
	"testing"

	"tollgate/api"
)

func TestList(t *testing.T) {
	for _, c := range []struct {
		own, want []string
	}{
		{nil, nil},
		{[]string{"a", "b"}, []string{"a", "b"}},
		{[]string{"a", ""}, []string{"a", ""}},
		{[]string{"b", "1", "a", "2", "b", "1"}, []string{"b", "1", "a", "2", "b", "1"}},
		{[]string{"a", "x; y"}, []string{"a", "x; y"}},
		{[]string{"cookies", "x; y", "cooki", "x; y"}, []string{"cookies", "x; y", "cooki", "x; y"}},
		// These are none of chapter 10's errors.
		{[]string{"connection", "a", "keep", "1", "upgrade", "x", "a", "b"}, []string{"connection", "a", "keep", "1", "upgrade", "x", "a", "b"}},
	} {
		checkList(t, put(c.own...), led(c.want...))
	}
	r := put()
	r.Fields, r.Body = []api.Field{}, []byte{}
	checkList(t, r, led())
	r = api.Request{Method: "GeT_1", Path: "*", Host: "a  b:80", Body: []byte("tea")}
	checkList(t, r, list(":method", "GeT_1", ":path", "*", ":host", "a  b:80"))
}

func TestListCookies(t *testing.T) {
	for _, c := range []struct {
		value  string
		pieces []string
	}{
		{"", []string{""}},
		{"a", []string{"a"}},
		{"a; b", []string{"a", "b"}},
		{"a=1; b=2; c=3", []string{"a=1", "b=2", "c=3"}},
		{"a; a; a; a; a", []string{"a", "a", "a", "a", "a"}},
		{"; a", []string{"", "a"}},
		{"; ; a", []string{"", "", "a"}},
		{"a; ; b", []string{"a", "", "b"}},
		{"a;b", []string{"a;b"}},
		{"a;", []string{"a;"}},
		{";", []string{";"}},
		{"; ;", []string{"", ";"}},
		{"a;; b", []string{"a;", "b"}},
		{"a;  b", []string{"a", " b"}},
		{"a ; b", []string{"a ", "b"}},
		{"a, b", []string{"a, b"}},
		{"a ;b", []string{"a ;b"}},
	} {
		var cut []string
		for _, piece := range c.pieces {
			cut = append(cut, "cookie", piece)
		}
		checkList(t, put("cookie", c.value), led(cut...))
		around := slices.Concat([]string{"a", "x; y"}, cut, []string{"b", "1"}, cut, []string{"c", ""})
		checkList(t, put("a", "x; y", "cookie", c.value, "b", "1", "cookie", c.value, "c", ""), led(around...))
	}
	// A blank would be at its end.
	refuseList(t, put("cookie", "a; "), api.ErrSyntax)
	refuseList(t, put("cookie", "; "), api.ErrSyntax)
	refuseList(t, put("cookie", "a", "cookie", "a; b; "), api.ErrSyntax)
}

func TestListMany(t *testing.T) {
	for _, n := range []int{1, 2, api.MaxFields - 1, api.MaxFields} {
		r := put()
		r.Fields = many(n)
		checkList(t, r, append(led(), many(n)...))
	}
	for _, n := range []int{api.MaxFields + 1, api.MaxFields + 2, 1000} {
		r := put()
		r.Fields = many(n)
		refuseList(t, r, api.ErrFull)
	}
	// The bound is that of the request's fields, not of what they are cut into.
	r, want := put(), led()
	for range api.MaxFields {
		r.Fields = append(r.Fields, f("cookie", "a; b"))
		want = append(want, f("cookie", "a"), f("cookie", "b"))
	}
	checkList(t, r, want)
	r.Body = some(api.MaxBody)
	checkList(t, r, want)
	r.Body = some(api.MaxBody + 1)
	refuseList(t, r, api.ErrFull)
}

func TestListTexts(t *testing.T) {
	r := api.Request{Method: long(api.MaxText), Path: long(api.MaxText), Host: long(api.MaxText), Fields: list(long(api.MaxText), long(api.MaxText))}
	checkList(t, r, list(":method", r.Method, ":path", r.Path, ":host", r.Host, long(api.MaxText), long(api.MaxText)))
	for _, c := range []struct {
		r    api.Request
		want api.Errno
	}{
		{api.Request{Path: "/a", Host: "h"}, api.ErrSyntax},
		{api.Request{Method: "G T", Path: "/a", Host: "h"}, api.ErrSyntax},
		{api.Request{Method: long(api.MaxText + 1), Path: "/a", Host: "h"}, api.ErrSyntax},
		{api.Request{Method: "GET", Host: "h"}, api.ErrSyntax},
		{api.Request{Method: "GET", Path: "/a b", Host: "h"}, api.ErrSyntax},
		{api.Request{Method: "GET", Path: "/\n", Host: "h"}, api.ErrSyntax},
		{api.Request{Method: "GET", Path: long(api.MaxText + 1), Host: "h"}, api.ErrSyntax},
		{api.Request{Method: "GET", Path: "/a"}, api.ErrSyntax},
		{api.Request{Method: "GET", Path: "/a", Host: " h"}, api.ErrSyntax},
		{api.Request{Method: "GET", Path: "/a", Host: "h\x7f"}, api.ErrSyntax},
		{api.Request{Method: "GET", Path: "/a", Host: long(api.MaxText + 1)}, api.ErrSyntax},
		{put("", "a"), api.ErrSyntax},
		{put("A", "a"), api.ErrSyntax},
		{put("Cookie", "a"), api.ErrSyntax},
		{put("a b", "a"), api.ErrSyntax},
		{put(":method", "GET"), api.ErrSyntax},
		{put(long(api.MaxText+1), "a"), api.ErrSyntax},
		{put("a", "b "), api.ErrSyntax},
		{put("a", "b\r"), api.ErrSyntax},
		{put("cookie", " b"), api.ErrSyntax},
		{put("cookie", long(api.MaxText+1)), api.ErrSyntax},
		// Its pieces would be short enough.
		{put("cookie", long(200)+"; "+long(200)), api.ErrSyntax},
		{put("host", "h"), api.ErrShape},
		{put("length", "0"), api.ErrShape},
		{put("coding", "chunked"), api.ErrShape},
	} {
		refuseList(t, c.r, c.want)
	}
}

func TestListWhichFirst(t *testing.T) {
	wrong := api.Request{Method: "", Path: "", Host: "", Fields: list("host", "h")}
	refuseList(t, wrong, api.ErrSyntax)
	wrong.Body = some(api.MaxBody + 1)
	refuseList(t, wrong, api.ErrFull)
	wrong.Body, wrong.Fields = nil, slices.Repeat(list("host", "\n"), api.MaxFields+1)
	refuseList(t, wrong, api.ErrFull)
	wrong.Fields = wrong.Fields[:api.MaxFields]
	refuseList(t, wrong, api.ErrSyntax)
	refuseList(t, put("host", "h", "A", "a"), api.ErrShape)
	refuseList(t, put("A", "a", "host", "h"), api.ErrSyntax)
	refuseList(t, put("a", "b", "length", "x", "cookie", "a; "), api.ErrShape)
	refuseList(t, put("a", "b", "cookie", "a; ", "length", "x"), api.ErrSyntax)
	refuseList(t, put("coding", "x "), api.ErrSyntax)
}
