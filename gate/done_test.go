package gate

import (
	"fmt"
	"strings"
	"testing"

	"tollgate/api"
)

// bytesRoom is how many bytes a reply has beside its fields of its own: :code and length with three digits and four.
const bytesRoom = 2000 - (5 + 3 + 32) - (6 + 1 + 32)

// weighing gives lines of fields that weigh so much in all.
func weighing(n int) string {
	s := ""
	for n > 433+33 {
		s += "x: " + xs(400) + "\r\n"
		n -= 433
	}
	if n > 433 {
		s += "x: " + xs(33) + "\r\n"
		n -= 66
	}
	return s + "x: " + xs(n-33) + "\r\n"
}

func linesOf(n int) (s string) {
	for i := range n {
		s += fmt.Sprintf("n%d: \r\n", i)
	}
	return s
}

// E2: what a place tells is answered.
func TestDone(t *testing.T) {
	digits := strings.Repeat("0123456789", 800)
	for _, c := range []struct {
		tell   string
		closed bool
		head   string
		body   string
	}{
		// by length
		{"EDGE/1 200\r\nlength: 0\r\n\r\n", false, "[{:code 200} {length 0}]", ""},
		{"EDGE/1 200\r\nlength: 0\r\n\r\n", true, "[{:code 200} {length 0}]", ""},
		{"EDGE/1 200\r\nlength: 1\r\n\r\nt", false, "[{:code 200} {length 1}]", "t"},
		{"EDGE/1 404\r\ntype: text\r\nlength: 3\r\n\r\ntea", false, "[{:code 404} {type text} {length 3}]", "tea"},
		{"EDGE/1 599\r\nx: \r\nx: b\r\nlength: 3\r\n\r\ntea", true, "[{:code 599} {x } {x b} {length 3}]", "tea"},
		{"EDGE/1 200\r\nlength: 8000\r\n\r\n" + digits, false, "[{:code 200} {length 8000}]", digits},
		// in pieces
		{"EDGE/1 200\r\ncoding: chunked\r\n\r\n0\r\n\r\n", false, "[{:code 200} {length 0}]", ""},
		{"EDGE/1 500\r\nx: y\r\ncoding: chunked\r\n\r\n2\r\nte\r\n1\r\na\r\n0\r\n\r\n", false, "[{:code 500} {x y} {length 3}]", "tea"},
		{"EDGE/1 200\r\ncoding: chunked\r\n\r\n1f40\r\n" + digits + "\r\n0\r\n\r\n", true, "[{:code 200} {length 8000}]", digits},
		// till the end
		{"EDGE/1 200\r\n\r\n", true, "[{:code 200} {length 0}]", ""},
		{"EDGE/1 200\r\nx: y\r\n\r\ntea", true, "[{:code 200} {x y} {length 3}]", "tea"},
		{"EDGE/1 200\r\n\r\n" + digits, true, "[{:code 200} {length 8000}]", digits},
		// none, whatever the fields say
		{"EDGE/1 100\r\nlength: 9\r\n\r\n", false, "[{:code 100}]", ""},
		{"EDGE/1 199\r\ncoding: chunked\r\n\r\n", false, "[{:code 199}]", ""},
		{"EDGE/1 204\r\nx: y\r\nlength: 3\r\n\r\ntea", false, "[{:code 204} {x y}]", ""},
		{"EDGE/1 304\r\n\r\n", false, "[{:code 304}]", ""},
		{"EDGE/1 304\r\n\r\ntea", true, "[{:code 304}]", ""},
		// what stands behind
		{"EDGE/1 200\r\nlength: 3\r\n\r\nteapot", false, "[{:code 200} {length 3}]", "tea"},
		{"EDGE/1 200\r\nlength: 0\r\n\r\nEDGE/1 300", true, "[{:code 200} {length 0}]", ""},
		{"EDGE/1 200\r\ncoding: chunked\r\n\r\n3\r\ntea\r\n0\r\n\r\n0\r\n\r\n", false, "[{:code 200} {length 3}]", "tea"},
		{"EDGE/1 204\r\n\r\n" + digits + digits + digits, false, "[{:code 204}]", ""},
		// what stays between two sides
		{"EDGE/1 200\r\nconnection: a, b\r\na: 1\r\nkeep: 5\r\nc: 2\r\nb: 3\r\nupgrade: d\r\na: 4\r\nlength: 3\r\n\r\ntea", false, "[{:code 200} {c 2} {length 3}]", "tea"},
		{"EDGE/1 204\r\nconnection: keep\r\nkeep: 5\r\n\r\n", false, "[{:code 204}]", ""},
	} {
		for _, method := range []string{"GET", "POST", "head", "HEADS"} {
			d := fresh(t)
			d.asks(1, get("/b"))
			d.asks(3, api.Request{Method: method, Path: "/a", Host: "h"})
			d.ticks(4)
			d.done(2, []byte(c.tell), c.closed)
			d.gets(3, c.head, c.body)
			d.getsNothing(1)
			d.waits(1)
			d.hears("")
			d.logged(entry(4, int(c.tell[7]-'0')*100+int(c.tell[8]-'0')*10+int(c.tell[9]-'0'), len(c.body), 4, method, "/a"))
		}
	}
}

// E2: a reply to a HEAD has no body, whatever its fields say.
func TestDoneBare(t *testing.T) {
	for _, tell := range []string{
		"EDGE/1 200\r\nx: y\r\nlength: 3\r\n\r\n",
		"EDGE/1 200\r\nx: y\r\nlength: 3\r\n\r\ntea",
		"EDGE/1 200\r\nx: y\r\nlength: 0\r\n\r\n",
		"EDGE/1 200\r\nx: y\r\ncoding: chunked\r\n\r\n",
		"EDGE/1 200\r\nx: y\r\n\r\n",
		"EDGE/1 200\r\nx: y\r\n\r\ntea",
	} {
		for _, closed := range []bool{false, true} {
			d := fresh(t)
			d.asks(1, api.Request{Method: "HEAD", Path: "/a", Host: "h"})
			d.done(1, []byte(tell), closed)
			d.gets(1, "[{:code 200} {x y} {length 0}]", "")
			d.logged(entry(0, 200, 0, 0, "HEAD", "/a"))
		}
	}
	// What is alone is the same for all.
	d := fresh(t)
	d.asks(1, api.Request{Method: "HEAD", Path: "/a", Host: "h"})
	d.asks(3, api.Request{Method: "HEAD", Path: "*", Host: "h"})
	d.done(1, []byte("EDGE/1 200\r\nx"), true)
	d.getsAlone(1, 502)
	d.getsAlone(3, 404)
}

// E2: what cannot be read, or not be said, is answered 502.
func TestDoneWrong(t *testing.T) {
	digits := strings.Repeat("0123456789", 800)
	for _, c := range []struct {
		tell   string
		closed bool
	}{
		// ErrShort
		{"", false}, {"", true}, {"E", false}, {"EDGE/1 20", true}, {"EDGE/1 200\r\n", false}, {"EDGE/1 200\r\n", true},
		{"EDGE/1 200\r\n\r\n", false}, {"EDGE/1 200\r\n\r\ntea", false},
		{"EDGE/1 200\r\nlength: 3\r\n\r\nte", false}, {"EDGE/1 200\r\nlength: 3\r\n\r\nte", true}, {"EDGE/1 200\r\nlength: 3\r\n\r", true},
		{"EDGE/1 200\r\ncoding: chunked\r\n\r\n3\r\ntea\r\n", false}, {"EDGE/1 200\r\ncoding: chunked\r\n\r\n3\r\ntea\r\n", true},
		// ErrSyntax
		{"200", false}, {"EDGE/2 200\r\nlength: 0\r\n\r\n", false}, {"EDGE/1 600\r\nlength: 0\r\n\r\n", true}, {"EDGE/1 099\r\nlength: 0\r\n\r\n", false},
		{"EDGE/1 200\r\nGreat: y\r\nlength: 0\r\n\r\n", false}, {"EDGE/1 200\r\nhost: h\r\nlength: 0\r\n\r\n", false}, {"EDGE/1 200\r\nlength: 00\r\n\r\n", false},
		{"EDGE/1 200\r\nx: y \r\nlength: 0\r\n\r\n", true}, {"EDGE/1 200\r\nlength: 0\r\nx: y\r\n\r\n", true}, {"EDGE/1 200\nlength: 0\n\n", true},
		{"EDGE/1 200\r\ncoding: chunked\r\n\r\nx", false}, {"GET / EDGE/1\r\nhost: h\r\n\r\n", true},
		// ErrFull
		{"EDGE/1 200\r\n" + linesOf(41) + "length: 0\r\n\r\n", false}, {"EDGE/1 200\r\nlength: 8001\r\n\r\n" + digits + "0", true},
		{"EDGE/1 200\r\ncoding: chunked\r\n\r\n1f41\r\n" + digits + "0\r\n0\r\n\r\n", false}, {"EDGE/1 200\r\n\r\n" + digits + digits + digits, false},
		// Tell: there is too much of the body
		{"EDGE/1 200\r\n\r\n" + digits + "0", true}, {"EDGE/1 299\r\n\r\n" + digits + digits + digits, true},
		// chapter 4: there are too many fields with :code and length, or they weigh too much
		{"EDGE/1 200\r\n" + linesOf(39) + "length: 0\r\n\r\n", false}, {"EDGE/1 200\r\n" + linesOf(40) + "length: 3\r\n\r\ntea", false},
		{"EDGE/1 204\r\n" + linesOf(40) + "\r\n", false},
		{"EDGE/1 200\r\n" + weighing(bytesRoom+1) + "length: 3\r\n\r\ntea", false}, {"EDGE/1 200\r\n" + weighing(bytesRoom) + "length: 10\r\n\r\n0123456789", true},
	} {
		d := fresh(t)
		d.asks(1, get("/a"))
		d.asks(3, get("/b"))
		d.ticks(6)
		d.done(1, []byte(c.tell), c.closed)
		d.getsAlone(1, 502)
		d.getsNothing(3)
		d.waits(2)
		d.hears("")
		d.logged(entry(6, 502, 3, 6, "GET", "/a"))
		// What goes out later is heard as it is said.
		d.done(2, told(t, 200, "tea", "x", "y"), false)
		d.gets(3, "[{:code 200} {x y} {length 3}]", "tea")
	}
}

// E2: as much as chapter 4 takes is answered.
func TestDoneFull(t *testing.T) {
	for _, tell := range []string{
		linesOf(38) + "length: 0\r\n\r\n", linesOf(38) + "keep: 1\r\nconnection: x\r\nlength: 3\r\n\r\ntea",
		weighing(bytesRoom) + "length: 3\r\n\r\ntea", weighing(bytesRoom-1) + "length: 10\r\n\r\n0123456789", weighing(bytesRoom) + "upgrade: " + xs(400) + "\r\nlength: 0\r\n\r\n",
	} {
		d := fresh(t)
		d.asks(1, get("/a"))
		d.done(1, []byte("EDGE/1 200\r\n"+tell), false)
		d.logged(entry(0, 200, len(d.replies[1].body), 0, "GET", "/a"))
		if n := len(d.replies[1].heads[0]); n > 40 || n < 7 {
			t.Errorf("%d fields", n)
		}
	}
}

// E2: 504.
func TestFail(t *testing.T) {
	d := fresh(t)
	d.asks(1, get("/a"))
	d.asks(3, post("/b", 7))
	d.asks(5, api.Request{Method: "HEAD", Path: "/c", Host: "h"})
	d.ticks(2)
	d.fails(2)
	d.getsAlone(3, 504)
	d.getsNothing(1, 5)
	d.waits(1, 3)
	d.ticks(5)
	d.fails(3)
	d.fails(1)
	d.getsAlone(1, 504)
	d.getsAlone(5, 504)
	d.waits()
	d.hears("")
	d.logged(entry(2, 504, 3, 2, "POST", "/b"), entry(5, 504, 3, 5, "HEAD", "/c"), entry(5, 504, 3, 5, "GET", "/a"))
}

// E2: each of the two, behind itself and behind the other, finds none; and what was answered stays.
func TestTwice(t *testing.T) {
	ends := []func(d *desk) error{
		func(d *desk) error { return d.Done(1, told(t, 200, "tea", "cache", "max-9"), false) },
		func(d *desk) error { return d.Done(1, nil, false) },
		func(d *desk) error { return d.Fail(1) },
	}
	for first, one := range ends {
		for _, other := range ends {
			d := fresh(t)
			d.asks(1, get("/a"))
			d.asks(3, get("/b"))
			d.is(one(d), api.OK)
			d.takes()
			was := d.state()
			d.is(other(d), api.ErrNone)
			d.is(other(d), api.ErrNone)
			d.same(was)
			switch first {
			case 0:
				d.gets(1, "[{:code 200} {cache max-9} {length 3}]", "tea")
			case 1:
				d.getsAlone(1, 502)
			case 2:
				d.getsAlone(1, 504)
			}
			// The Store has what the first one put there alone.
			d.asks(5, get("/a"))
			if first == 0 {
				d.waits(2)
			} else {
				d.waits(2, 3)
			}
		}
	}
}

// E2: what is Put into the Store is the reply as it was told, of the request as it was asked.
func TestDonePuts(t *testing.T) {
	d := fresh(t)
	ask := with(with(get("/a/b"), "accept", "x"), "cookie", "1")
	d.asks(1, ask)
	d.ticks(3)
	d.done(1, told(t, 200, "tea", "vary", "cookie, accept", "keep", "5", "cache", "max-9", "connection", "c", "c", "1"), true)
	d.ticks(5)
	stored := "[{:code 200} {vary cookie, accept} {cache max-9} {age 2} {length 3}]"
	d.asks(3, ask)
	d.gets(3, stored, "tea")
	d.asks(5, with(with(get("/a/b"), "cookie", "1"), "accept", "x"))
	d.gets(5, stored, "tea")
	// Not by the path that the place was asked, nor for other values.
	d.asks(7, with(with(get("/b"), "accept", "x"), "cookie", "1"))
	d.asks(9, with(with(get("/a/b"), "accept", "y"), "cookie", "1"))
	d.waits(2, 3)
	d.none(1)
	d.done(3, told(t, 200, "pot", "vary", "cookie, accept", "cache", "max-2"), false)
	d.asks(11, with(with(get("/a/b"), "accept", "y"), "cookie", "1"))
	d.gets(11, "[{:code 200} {vary cookie, accept} {cache max-2} {age 0} {length 3}]", "pot")
	d.asks(13, ask)
	d.gets(13, stored, "tea")
	d.waits(2)
}

// E2: of the same request the reply that came last is Put in place of the one ahead, whichever was asked first.
func TestDonePutsAnew(t *testing.T) {
	d := fresh(t)
	d.asks(1, get("/a"))
	d.asks(3, get("/a"))
	d.waits(1, 2)
	d.done(2, told(t, 200, "second", "cache", "max-9"), false)
	d.asks(5, get("/a"))
	d.gets(5, "[{:code 200} {cache max-9} {age 0} {length 6}]", "second")
	d.ticks(3)
	d.done(1, told(t, 200, "first", "cache", "max-9"), false)
	d.asks(7, get("/a"))
	d.gets(7, "[{:code 200} {cache max-9} {age 0} {length 5}]", "first")
	d.ticks(9)
	d.asks(9, get("/a"))
	d.gets(9, "[{:code 200} {cache max-9} {age 6} {length 5}]", "first")
}

// E2: what is not for the Store, or was not answered, is not there.
func TestDonePutsNot(t *testing.T) {
	digits := strings.Repeat("0123456789", 800)
	for _, c := range []struct{ method, tell string }{
		{"POST", "EDGE/1 200\r\ncache: max-9\r\nlength: 3\r\n\r\ntea"},
		{"HEAD", "EDGE/1 200\r\ncache: max-9\r\nlength: 3\r\n\r\ntea"},
		{"GET", "EDGE/1 201\r\ncache: max-9\r\nlength: 3\r\n\r\ntea"},
		{"GET", "EDGE/1 200\r\ncache: none\r\nlength: 3\r\n\r\ntea"},
		{"GET", "EDGE/1 200\r\nlength: 3\r\n\r\ntea"},
		{"GET", "EDGE/1 200\r\ncache: max-0\r\nlength: 3\r\n\r\ntea"},
		{"GET", "EDGE/1 200\r\ncache: max-9\r\nlength: 3\r\n\r\nte"},
		{"GET", "EDGE/1 200\r\ncache: max-9\r\n" + linesOf(38) + "length: 3\r\n\r\ntea"},
		{"GET", "EDGE/1 200\r\ncache: max-9\r\n" + weighing(bytesRoom) + "length: 3\r\n\r\ntea"},
		{"GET", "EDGE/1 200\r\ncache: max-9\r\n\r\n" + digits + "0"},
	} {
		d := fresh(t)
		d.asks(1, api.Request{Method: c.method, Path: "/a", Host: "h"})
		d.done(1, []byte(c.tell), true)
		d.asks(3, get("/a"))
		d.getsNothing(3)
		d.waits(2)
	}
}

// P2: what a place told is not kept, nor written into.
func TestDoneHandedIn(t *testing.T) {
	d := fresh(t)
	d.held = true
	d.asks(1, get("/a"))
	tea := told(t, 200, strings.Repeat("0123456789", 300), "cache", "max-9", "x", "y")
	in := make([]byte, len(tea), len(tea)+9)
	copy(in, tea)
	d.done(1, in, false)
	if string(in) != string(tea) || string(in[len(tea):cap(in)]) != string(make([]byte, cap(in)-len(tea))) {
		t.Error("what was handed in is changed")
	}
	for i := range in[:cap(in)] {
		in[:cap(in)][i] = 0xEE
	}
	d.says(wide(0, 9000), wide(1, 5000))
	d.gets(1, "[{:code 200} {cache max-9} {x y} {length 3000}]", strings.Repeat("0123456789", 300))
	d.asks(3, get("/a"))
	d.says(wide(3, 5000))
	d.gets(3, "[{:code 200} {cache max-9} {x y} {age 0} {length 3000}]", strings.Repeat("0123456789", 300))
}
