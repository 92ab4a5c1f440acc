package gate

import (
	"fmt"
	"slices"
	"strings"
	"testing"

	"tollgate/api"
)

// lead is how the fields of a request begin.
func lead(more ...string) []string {
	return append([]string{":method", "PUT", ":path", "/a", ":host", "h"}, more...)
}

// E1: chapter 11's errors are answered 400; of ErrFull none comes so far: chapter 4 hears no more fields, and 413 goes ahead.
func TestUnreadable(t *testing.T) {
	for _, l := range [][]string{
		// ErrShape of what is ahead
		{},
		{"x", "y"},
		{":method", "GET", ":path", "/a"},
		{":method", "GET", ":host", "h"},
		{":path", "/a", ":host", "h"},
		lead(":code", "200"),
		lead(":x", "y"),
		lead(":method", "PUT"),
		lead(":path", "/a"),
		lead(":host", "h"),
		{":method", "GET", "x", "y", ":path", "/a", ":host", "h"},
		lead("x", "y", ":host", "h"),
		// ErrShape of others
		lead("connection", "x"),
		lead("coding", "chunked"),
		lead("keep", "5"),
		lead("upgrade", "x"),
		lead("host", "h"),
		lead("length", "1"),
		lead("length", "00"),
		lead("length", ""),
		lead("x", "y", "keep", "5"),
		// ErrSyntax
		{":method", "", ":path", "/a", ":host", "h"},
		{":method", "G T", ":path", "/a", ":host", "h"},
		{":method", "GET", ":path", "", ":host", "h"},
		{":method", "GET", ":path", "/a b", ":host", "h"},
		{":method", "GET", ":path", "/a\x7f", ":host", "h"},
		{":method", "GET", ":path", "/a", ":host", ""},
		{":method", "GET", ":path", "/a", ":host", " h"},
		lead("", "y"),
		lead("Great", "y"),
		lead("a.b", "y"),
		lead("x", "y "),
		lead("x", "\r\n"),
		lead("cookie", xs(300), "cookie", xs(300)),
	} {
		d := fresh(t)
		d.ticks(3)
		d.says(d.head(1, true, l...)...)
		d.getsAlone(1, 400)
		d.waits()
		d.hears("")
		d.logged(entry(3, 400, 3, 0, "-", "/"))
	}
}

// E1: the length that a request says is that of its body, or it is answered 400.
func TestLengths(t *testing.T) {
	for _, c := range []struct {
		length string
		size   int
		right  bool
	}{
		{"0", 0, true}, {"1", 0, false}, {"", 0, false}, {"5", 5, true}, {"05", 5, false}, {"5", 4, false}, {"5", 6, false}, {"0", 5, false},
		{"8000", 8000, true}, {"7999", 8000, false}, {"+5", 5, false},
	} {
		d := fresh(t)
		d.says(d.head(1, c.size == 0, lead("length", c.length)...)...)
		if c.size > 0 {
			d.says(pieces(1, true, some(c.size))...)
		}
		if !c.right {
			d.getsAlone(1, 400)
			d.waits()
			continue
		}
		d.getsNothing(1)
		d.job(1, "two", asked(t, api.Request{Method: "PUT", Host: "h", Body: some(c.size)}, "/"))
	}
}

// E1: bodies: none, some, as many as may be, and more.
func TestBodies(t *testing.T) {
	for _, n := range []int{0, 1, 2, 1023, 1024, 1025, 2000, 2001, 4096, mostBody - 1, mostBody} {
		d := fresh(t)
		d.asks(1, post("/a/b", n))
		d.waits(1)
		d.job(1, "two", asked(t, post("", n), "/b"))
		d.logged()
	}
	for _, n := range []int{mostBody + 1, mostBody + 2, mostBody + 1024, 2 * mostBody, 9 * mostBody} {
		d := fresh(t)
		d.ticks(8)
		d.asks(1, post("/a/b", n))
		d.getsAlone(1, 413)
		d.waits()
		d.none(1)
		d.logged(entry(8, 413, 3, 0, "-", "/"))
	}
	// As many, and an end behind them.
	for _, n := range []int{mostBody, mostBody + 1} {
		d := fresh(t)
		d.says(d.head(1, false, lead()...)...)
		d.says(pieces(1, false, some(n))...)
		d.getsNothing(1)
		d.waits()
		d.says(data(1, true, nil))
		if n > mostBody {
			d.getsAlone(1, 413)
			continue
		}
		d.waits(1)
	}
}

// E1: one byte more counts however the body is cut.
func TestBodiesCut(t *testing.T) {
	for _, size := range []int{1, 10, 100, 1000} {
		for _, more := range []int{0, 1, 2, 1000} {
			d := fresh(t)
			d.says(d.head(1, false, lead()...)...)
			for p := range slices.Chunk(some(mostBody), size) {
				d.says(data(1, false, p))
			}
			d.says(data(1, true, some(more)))
			if more > 0 {
				d.getsAlone(1, 413)
				continue
			}
			d.job(1, "two", asked(t, api.Request{Method: "PUT", Host: "h", Body: some(mostBody)}, "/"))
		}
	}
}

// E1: it is whole when its body ends, not when there is too much of it.
func TestTooLargeAtEnd(t *testing.T) {
	d := fresh(t)
	d.says(d.head(1, false, lead()...)...)
	d.says(pieces(1, false, some(2*mostBody))...)
	d.getsNothing(1)
	d.logged()
	d.ticks(5)
	d.says(d.head(1, true)...)
	d.getsAlone(1, 413)
	d.logged(entry(5, 413, 3, 0, "-", "/"))
	d.says(d.head(3, false, lead()...)...)
	d.says(pieces(3, false, some(2*mostBody))...)
	d.says(stop(3, 0))
	d.getsNothing(3)
	d.logged(entry(5, 413, 3, 0, "-", "/"))
}

// E1: the Limit goes by Host, one a request, at the time that it is.
func TestTooOften(t *testing.T) {
	d := made(t, roads(), 2, 3)
	other := get("/a")
	other.Host = "i"
	for stream := 1; stream < 7; stream += 2 {
		d.asks(stream, get("/a"))
	}
	d.waits(1, 2, 3)
	d.asks(7, get("/a"))
	d.getsAlone(7, 429)
	d.asks(9, post("/b", 5))
	d.getsAlone(9, 429)
	d.asks(11, other)
	d.waits(1, 2, 3, 4)
	d.ticks(1)
	d.asks(13, get("/a"))
	d.asks(15, get("/a"))
	d.waits(1, 2, 3, 4, 5, 6)
	d.asks(17, get("/a"))
	d.getsAlone(17, 429)
	d.logged(entry(0, 429, 3, 0, "GET", "/a"), entry(0, 429, 3, 0, "POST", "/b"), entry(1, 429, 3, 0, "GET", "/a"))
	for id := 1; id < 7; id++ {
		d.fails(id)
	}
	// To no more than burst.
	d.ticks(mostTime)
	for stream := 19; stream < 25; stream += 2 {
		d.asks(stream, get("/a"))
	}
	d.waits(7, 8, 9)
	d.asks(25, get("/a"))
	d.getsAlone(25, 429)
	d.asks(27, other)
	d.waits(7, 8, 9, 10)
}

// E1: of a hundred Hosts another one is answered 429, by the Limit's error.
func TestTooManyHosts(t *testing.T) {
	d := made(t, roads(), mostTime, mostTime)
	stream := 1
	ask := func(host, path string) int {
		stream += 2
		d.asks(stream, api.Request{Method: "GET", Path: path, Host: host})
		return stream
	}
	for i := range 100 {
		d.getsAlone(ask(fmt.Sprint("h", i), "*"), 404)
	}
	d.getsAlone(ask("h100", "*"), 429)
	d.getsAlone(ask("h100", "/"), 429)
	d.getsAlone(ask("h99", "*"), 404)
	ask("h0", "/a")
	d.waits(1)
	d.getsAlone(ask("h101", "/a"), 429)
	d.ticks(mostTime)
	d.getsAlone(ask("h101", "/a"), 429)
	ask("h99", "/a")
	d.waits(1, 2)
}

// E1: where no route leads.
func TestNowhere(t *testing.T) {
	d := made(t, []api.Route{{Host: "h", Path: "/a", To: "one"}, {Path: "/b/", To: "two"}}, mostTime, mostTime)
	d.ticks(2)
	d.asks(1, get("/"))
	d.asks(3, get("/ab"))
	d.asks(5, get("/b"))
	d.asks(7, get("*"))
	d.asks(9, api.Request{Method: "HEAD", Path: "/a", Host: "i"})
	d.asks(11, api.Request{Method: "get", Path: "/a", Host: "H", Body: some(9)})
	for stream := 1; stream < 13; stream += 2 {
		d.getsAlone(stream, 404)
	}
	d.logged(entry(2, 404, 3, 0, "GET", "/"), entry(2, 404, 3, 0, "GET", "/ab"), entry(2, 404, 3, 0, "GET", "/b"),
		entry(2, 404, 3, 0, "GET", "*"), entry(2, 404, 3, 0, "HEAD", "/a"), entry(2, 404, 3, 0, "get", "/a"))
	d.waits()
	d.asks(13, get("/a"))
	d.asks(15, api.Request{Method: "GET", Path: "/b/", Host: "i"})
	d.waits(1, 2)
}

// kept has in its Store a reply to GET /a, put at the time 10, for 20.
func kept(t *testing.T, pairs ...string) *desk {
	t.Helper()
	d := fresh(t)
	d.ticks(7)
	d.asks(1, get("/a"))
	d.ticks(10)
	d.done(1, told(t, 200, "tea", append(pairs, "cache", "max-20")...), false)
	return d
}

// E1: a reply of the Store, and how old it is behind all.
func TestStored(t *testing.T) {
	d := kept(t, "x", "1")
	d.gets(1, "[{:code 200} {x 1} {cache max-20} {length 3}]", "tea")
	for i, age := range []int{0, 0, 1, 9, 10, 19, 19} {
		d.ticks(10 + age)
		d.asks(3+2*i, get("/a"))
		d.gets(3+2*i, fmt.Sprintf("[{:code 200} {x 1} {cache max-20} {age %d} {length 3}]", age), "tea")
	}
	d.waits()
	d.ticks(30)
	d.asks(21, get("/a"))
	d.getsNothing(21)
	d.waits(2)
	d.logged(entry(10, 200, 3, 3, "GET", "/a"), entry(10, 200, 3, 0, "GET", "/a"), entry(10, 200, 3, 0, "GET", "/a"), entry(11, 200, 3, 0, "GET", "/a"),
		entry(19, 200, 3, 0, "GET", "/a"), entry(20, 200, 3, 0, "GET", "/a"), entry(29, 200, 3, 0, "GET", "/a"), entry(29, 200, 3, 0, "GET", "/a"))
}

// E1: an age that it has stays, ahead of the new one; what stays between two sides is left out of this reply, too.
func TestStoredAge(t *testing.T) {
	d := kept(t, "age", "5", "connection", "a, b", "a", "1", "b", "2", "keep", "9")
	d.gets(1, "[{:code 200} {age 5} {cache max-20} {length 3}]", "tea")
	d.ticks(12)
	d.asks(3, get("/a"))
	d.gets(3, "[{:code 200} {age 5} {cache max-20} {age 2} {length 3}]", "tea")
	d.asks(5, get("/a"))
	d.gets(5, "[{:code 200} {age 5} {cache max-20} {age 2} {length 3}]", "tea")
}

// E1: what fits another request only is none.
func TestNotStored(t *testing.T) {
	d := kept(t, "vary", "accept")
	others := []api.Request{
		get("/a/"), get("/b"), with(get("/a"), "accept", "x"),
		{Method: "HEAD", Path: "/a", Host: "h"}, {Method: "POST", Path: "/a", Host: "h"}, {Method: "GET", Path: "/a", Host: "i"},
	}
	for i, r := range others {
		d.asks(3+2*i, r)
		d.getsNothing(3 + 2*i)
	}
	d.waits(2, 3, 4, 5, 6, 7)
	d.asks(21, with(get("/a"), "other", "x"))
	d.gets(21, "[{:code 200} {vary accept} {cache max-20} {age 0} {length 3}]", "tea")
	withBody := get("/a")
	withBody.Body = some(5)
	d.asks(23, withBody)
	d.gets(23, "[{:code 200} {vary accept} {cache max-20} {age 0} {length 3}]", "tea")
	d.waits(2, 3, 4, 5, 6, 7)
}

// A reply of the Store that cannot be said with its age is one that something is wrong with.
func TestStoredTooFull(t *testing.T) {
	var pairs []string
	for i := range 37 {
		pairs = append(pairs, fmt.Sprint("n", i), "")
	}
	d := kept(t, pairs...)
	if n := len(d.replies[1].heads[0]); n != 40 {
		t.Errorf("%d fields", n)
	}
	for stream := 3; stream < 9; stream += 2 {
		d.asks(stream, get("/a"))
		d.getsAlone(stream, 502)
	}
	d.waits()
	d.logged(entry(10, 200, 3, 3, "GET", "/a"), entry(10, 502, 3, 0, "GET", "/a"), entry(10, 502, 3, 0, "GET", "/a"), entry(10, 502, 3, 0, "GET", "/a"))
	d = kept(t, pairs[2:]...)
	d.asks(3, get("/a"))
	if n := len(d.replies[3].heads[0]); n != 40 {
		t.Errorf("%d fields with an age", n)
	}
}

// E1: which goes ahead where several are due.
func TestAnswersInOrder(t *testing.T) {
	// 413, 400 and 429; and neither of the first two asks the Limit.
	d := made(t, []api.Route{{Path: "/a", To: "one"}}, 1, 1)
	spoilt := lead("keep", "5")
	large := func(stream int, l ...string) {
		t.Helper()
		d.says(d.head(stream, false, l...)...)
		d.says(pieces(stream, true, some(mostBody+1))...)
	}
	large(1, spoilt...)
	d.getsAlone(1, 413)
	large(3, lead()...)
	d.getsAlone(3, 413)
	large(5)
	d.getsAlone(5, 413)
	d.says(d.head(7, true, spoilt...)...)
	d.getsAlone(7, 400)
	// What no route leads to is asked of the Limit.
	d.asks(9, get("/b"))
	d.getsAlone(9, 404)
	d.asks(11, get("/b"))
	d.getsAlone(11, 429)
	d.asks(13, get("/a"))
	d.getsAlone(13, 429)
	large(15, spoilt...)
	d.getsAlone(15, 413)
	d.says(d.head(17, true, ":method", "GET", ":path", "/a b", ":host", "h")...)
	d.getsAlone(17, 400)
	// So is what the Store has.
	d.ticks(1)
	d.asks(19, get("/a"))
	d.waits(1)
	d.done(1, told(t, 200, "tea", "cache", "max-9"), false)
	d.asks(21, get("/a"))
	d.getsAlone(21, 429)
	d.ticks(2)
	d.asks(23, get("/a"))
	d.gets(23, "[{:code 200} {cache max-9} {age 1} {length 3}]", "tea")
	d.asks(25, get("/a"))
	d.getsAlone(25, 429)
	codes := ""
	for _, e := range d.Log() {
		codes += fmt.Sprint(" ", e.Code)
	}
	if codes != " 413 413 413 400 404 429 429 413 400 200 429 200 429" {
		t.Errorf("logged%s", codes)
	}
}

// E1: a code alone goes out as a Head without End, and its digits with End; a reply without a body as a Head with End.
func TestAsFrames(t *testing.T) {
	d := fresh(t)
	d.is(d.Feed(bytesOf(t, d.frames(1, get("*"))...)), api.OK)
	d.is(d.Feed(bytesOf(t, d.frames(3, get("/"))...)), api.OK)
	d.is(d.Done(1, told(t, 204, "", "x", "y"), false), api.OK)
	want := bytesOf(t, fr(api.Head, 4, 1, "\x86\x47\x013"), fr(api.Data, 1, 1, "404"), fr(api.Head, 5, 3, "\x45\x03204\x40\x01x\x01y"))
	if got := d.Out(); string(got) != string(want) {
		t.Errorf("said %q, want %q", got, want)
	}
}

// What waits of a reply goes as it is granted, and nothing of it is twice.
func TestAnswerWaits(t *testing.T) {
	d := fresh(t)
	d.held = true
	d.asks(1, get("/a"))
	d.asks(3, get("/b"))
	long := strings.Repeat("0123456789", 500)
	d.done(2, told(t, 200, long), false)
	d.done(1, told(t, 201, "tea"), false)
	if n := len(d.replies[3].body); n != 2000 || d.replies[3].ends != 0 || len(d.replies[1].body) > 0 {
		t.Errorf("%d bytes went", n)
	}
	// Both are answered already, though one is stopped then.
	d.logged(entry(0, 200, 5000, 0, "GET", "/b"), entry(0, 201, 3, 0, "GET", "/a"))
	d.says(wide(0, 500))
	d.gets(1, "[{:code 201} {length 3}]", "tea")
	d.says(wide(3, 500))
	if got := string(d.replies[3].body); got != long[:2497] || d.replies[3].ends != 0 {
		t.Errorf("%d bytes went then", len(got))
	}
	d.says(stop(3, 0))
	d.says(wide(0, 5000), wide(3, 5000))
	if got := string(d.replies[3].body); got != long[:2497] || d.replies[3].ends != 0 {
		t.Errorf("%d bytes went behind a Stop", len(got))
	}
	d.hears("")
	d.logged(entry(0, 200, 5000, 0, "GET", "/b"), entry(0, 201, 3, 0, "GET", "/a"))
}
