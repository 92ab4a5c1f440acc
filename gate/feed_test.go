package gate

import (
	"bytes"
	"fmt"
	"slices"
	"testing"

	"tollgate/api"
	"tollgate/conn"
	"tollgate/plain"
)

// script has one of each thing that may come of a request, one behind the other.
func script(d *desk) []api.Frame {
	var l []api.Frame
	add := func(more ...api.Frame) { l = append(l, more...) }
	add(d.frames(1, get("/a/b"))...)
	add(d.frames(3, api.Request{Method: "GET", Path: "*", Host: "h"})...)
	add(stop(3, 7)) // it is answered already
	add(d.frames(5, post("/c", 7000))...)
	add(fr(api.Ping, 0, 0, "12345678"))
	add(d.head(7, true, ":method", "GET", "x", "y")...)
	add(d.head(9, false, ":method", "PUT", ":path", "/a", ":host", "i")...)
	add(data(9, false, some(900)), data(9, false, some(400)))
	add(d.head(9, true, "z", "1")...)
	add(d.head(11, false, ":method", "PUT", ":path", "/", ":host", "i")...)
	add(data(11, false, some(1001)))
	add(d.head(11, false, "z", "1")...)
	add(data(11, false, some(1024)), data(11, true, some(1024)))
	add(d.frames(13, get("/d"))...)
	add(stop(13, 0))
	add(d.frames(15, post("/e", 8001))...)
	add(d.frames(17, with(get("/f"), "z", "1"))...)
	return l
}

// E1: all at once, byte by byte, and cut anywhere the same comes of it, and the same goes out.
func TestPieces(t *testing.T) {
	run := func(cut func(b []byte) [][]byte) (*desk, []byte) {
		d := fresh(t)
		for _, p := range cut(bytesOf(t, script(d)...)) {
			d.is(d.Feed(p), api.OK)
		}
		out := d.Out()
		d.waits(1, 2, 3, 5)
		d.job(1, "two", asked(t, get(""), "/b"))
		d.job(2, "one", asked(t, post("", 7000), "/c"))
		d.job(3, "one", asked(t, api.Request{Method: "PUT", Host: "i", Body: append(some(900), some(400)...)}, "/a"))
		d.job(5, "one", asked(t, with(get(""), "z", "1"), "/f"))
		d.none(4, 6)
		d.logged(entry(0, 404, 3, 0, "GET", "*"), entry(0, 400, 3, 0, "-", "/"), entry(0, 413, 3, 0, "-", "/"))
		return d, out
	}
	_, want := run(func(b []byte) [][]byte { return [][]byte{b} })
	_, got := run(func(b []byte) [][]byte { return slices.Collect(slices.Chunk(b, 1)) })
	if !bytes.Equal(got, want) {
		t.Error("byte by byte other bytes go out")
	}
	for at := 0; at < len(want); at += 97 {
		_, got = run(func(b []byte) [][]byte { return [][]byte{nil, b[:at*len(b)/len(want)], b[at*len(b)/len(want):], nil} })
		if !bytes.Equal(got, want) {
			t.Errorf("cut at %d of %d other bytes go out", at, len(want))
		}
	}
}

// What is whole, stopped or ended is not kept.
func TestNotKept(t *testing.T) {
	d := fresh(t)
	d.says(script(d)...)
	d.says(d.frames(19, post("/a", 3))[0])
	if len(d.coming) != 1 || len(d.jobs) != 4 {
		t.Errorf("%d are coming, %d wait", len(d.coming), len(d.jobs))
	}
	d.says(stop(19, 0), stop(1, 0))
	d.fails(2)
	d.done(3, told(t, 200, "tea"), false)
	d.done(5, nil, false)
	if len(d.coming) != 0 || len(d.jobs) != 0 {
		t.Errorf("at the end %d are coming, %d wait", len(d.coming), len(d.jobs))
	}
	d.says(d.frames(21, post("/a", 3))[0])
	d.says(data(0, false, nil))
	if len(d.coming) != 0 {
		t.Errorf("when it is over %d are coming", len(d.coming))
	}
}

// E1: what a client says while it is not whole changes nothing that is told.
func TestNotWhole(t *testing.T) {
	d := fresh(t)
	l := append(d.frames(1, post("/a", 2)), d.frames(3, get("/b"))...)
	b := bytesOf(t, l...)
	first := len(bytesOf(t, l[:2]...))
	for i := range b {
		switch {
		case i < first:
			d.waits()
		default:
			d.waits(1)
		}
		d.is(d.Feed(b[i:i+1]), api.OK)
	}
	d.waits(1, 2)
	d.takes()
	d.hears("")
	d.logged()
}

// checkOver asks that nothing is heard any more, and nothing that is told is changed by it.
func checkOver(d *desk, want string) {
	d.t.Helper()
	d.takes()
	d.hears(want)
	was := d.state()
	for _, b := range [][]byte{nil, {}, {0}, bytesOf(d.t, fr(api.Set, 0, 0, "")), bytesOf(d.t, fr(api.Ping, 0, 0, "12345678"), stop(1, 0))} {
		d.is(d.Feed(b), api.ErrState)
	}
	d.same(was)
}

// E1: ErrState where the Conn is Over; of what makes it so the Feed has no error, and what came ahead of that is done.
func TestOver(t *testing.T) {
	for _, c := range []struct {
		wrong func(d *desk) []api.Frame
		said  string
	}{
		{func(d *desk) []api.Frame { return []api.Frame{data(0, false, nil)} }, "Bye 3 1"},
		{func(d *desk) []api.Frame { return []api.Frame{fr(api.Ping, 0, 0, "1")} }, "Bye 3 6"},
		{func(d *desk) []api.Frame { return d.head(2, true, "x", "y") }, "Bye 3 1"},
		{func(d *desk) []api.Frame { return []api.Frame{fr(api.Head, 5, 5, "\xff\xff")} }, "Bye 3 9"},
		{func(d *desk) []api.Frame { return []api.Frame{wide(0, api.MaxWord)} }, "Bye 3 3"},
		{func(d *desk) []api.Frame { return []api.Frame{data(3, false, nil)} }, "Bye 3 5"},
	} {
		d := fresh(t)
		l := slices.Concat(d.frames(1, get("/a")), d.frames(3, get("*")), c.wrong(d), d.frames(5, get("/b")), d.frames(7, get("*")))
		d.is(d.Feed(bytesOf(t, l...)), api.OK)
		checkOver(d, c.said)
		d.getsAlone(3, 404)
		d.getsNothing(1, 5, 7)
		d.logged(entry(0, 404, 3, 0, "GET", "*"))
	}
	g, err := New(roads(), 1, 1)
	if err != nil {
		t.Fatal(err)
	}
	if err := g.Feed(bytesOf(t, fr(api.Ping, 0, 0, "12345678"))); err != nil {
		t.Errorf("Feed of what is wrong: got %v", err)
	}
	if err := g.Feed(nil); plain.Told(err) != api.ErrState {
		t.Errorf("Feed behind what is wrong: got %v", err)
	}
}

// A job of a client to which nothing can be said any more still waits, as its stream was not stopped; when it ends nobody is answered.
func TestJobOver(t *testing.T) {
	d := fresh(t)
	d.asks(1, get("/a"))
	d.asks(3, get("/b"))
	d.asks(5, get("/c"))
	d.says(data(0, false, nil))
	checkOver(d, "Bye 5 1")
	d.waits(1, 2, 3)
	d.ticks(4)
	d.done(2, told(t, 200, "tea"), false)
	d.done(3, nil, false)
	d.waits(1)
	d.fails(1)
	d.waits()
	d.getsNothing(1, 3, 5)
	d.logged()
	d.hears("")
}

// E1: what comes of bodies is granted anew, to all, and to a stream till its body ends.
func TestGrants(t *testing.T) {
	d := fresh(t)
	d.says(d.head(1, false, ":method", "PUT", ":path", "/", ":host", "h")...)
	d.says(d.head(3, false, ":method", "PUT", ":path", "/", ":host", "h")...)
	d.hears("")
	d.says(data(1, false, some(1000)))
	d.hears("") // half is left
	d.says(data(1, false, some(1)))
	d.hears("Wide 0 1001, Wide 1 1001")
	d.says(data(1, false, some(600)))
	d.says(data(3, false, some(400)))
	d.hears("")
	d.says(data(3, false, some(1)))
	d.hears("Wide 0 1001")
	d.says(data(3, false, some(600)))
	d.hears("Wide 3 1001")
	d.says(data(1, true, some(1000)))
	d.hears("Wide 0 1600")
	d.says(data(3, true, nil))
	d.hears("")
	d.waits(1, 2)
	d.says(d.frames(5, post("/", 1020))...)
	d.hears("Wide 0 1020")
	d.says(d.head(7, false, ":method", "PUT", ":path", "/", ":host", "h")...)
	for range 60 {
		d.says(data(7, false, some(1024)))
		d.hears("Wide 0 1024, Wide 7 1024")
	}
	d.says(data(7, true, some(1024)))
	d.hears("Wide 0 1024")
	d.getsAlone(7, 413)
}

// E1: what comes of bodies that nobody hears is granted anew to all: it would be lost to those that are to come.
func TestGrantsPassedOver(t *testing.T) {
	d := fresh(t)
	d.says(d.head(1, false, ":method", "PUT", ":path", "/", ":host", "h")...)
	d.says(d.head(1, false, "x", "y")...)
	d.hears("Stop 1 1")
	for range 9 {
		d.says(data(1, false, some(1000)))
		d.hears("")
		d.says(data(1, false, some(24)))
		d.hears("Wide 0 1024")
	}
	// The seventeenth at a time is refused; it may have said its body already.
	for stream := 3; stream < 35; stream += 2 {
		d.says(d.head(stream, false, ":method", "PUT", ":path", fmt.Sprint("/", stream), ":host", "h")...)
	}
	d.says(append(d.head(35, false, ":method", "PUT", ":path", "/", ":host", "h"), data(35, false, some(1000)), data(35, true, some(1000)))...)
	d.hears(fmt.Sprintf("Stop 35 %d, Wide 0 2000", refused))
	for stream := 3; stream < 35; stream += 2 {
		d.says(data(stream, true, some(1024)))
		d.hears("Wide 0 1024")
	}
	d.waits(1, 2, 3, 4, 5, 6, 7, 8, 9, 10, 11, 12, 13, 14, 15, 16)
	// More on one stream than was granted to it.
	d = fresh(t)
	d.says(d.head(1, false, ":method", "PUT", ":path", "/", ":host", "h")...)
	d.says(d.head(3, false, ":method", "PUT", ":path", "/", ":host", "h")...)
	d.says(data(1, false, some(900)), data(3, false, some(101)), data(1, false, some(100)))
	d.hears("Wide 0 1001")
	d.waits()
}

// E1: a second head with End ends the body, and is left out, whatever it says.
func TestSecondHeadEnds(t *testing.T) {
	for _, second := range [][]string{
		{},
		{"x", "y"},
		{":method", "GET", ":path", "/other", ":host", "other"},
		{":method", "GET"},
		{":code", "200"},
		{"length", "3"},
		{"length", "0"},
		{"connection", "a"},
		{"host", "other"},
		{"Great", "a"},
		{"cookie", "c"},
	} {
		for _, body := range [][]byte{nil, some(1), some(900)} {
			d := fresh(t)
			d.says(d.head(1, false, ":method", "PUT", ":path", "/a/b", ":host", "h", "cookie", "a", "x", "1")...)
			if len(body) > 0 {
				d.says(pieces(1, false, body)...)
			}
			d.waits()
			d.says(d.head(1, true, second...)...)
			d.hears("")
			want := api.Request{Method: "PUT", Host: "h", Fields: []api.Field{{Name: "cookie", Value: "a"}, {Name: "x", Value: "1"}}, Body: body}
			d.waits(1)
			d.job(1, "two", asked(t, want, "/b"))
			d.done(1, told(t, 200, "tea"), false)
			d.gets(1, "[{:code 200} {length 3}]", "tea")
			d.logged(entry(0, 200, 3, 0, "PUT", "/a/b"))
		}
	}
}

// A first head without any field is one, too.
func TestSecondHeadOfNone(t *testing.T) {
	d := fresh(t)
	d.says(d.head(1, false)...)
	d.says(d.head(1, true, lead()...)...)
	d.getsAlone(1, 400)
	d.says(d.head(3, false)...)
	d.says(d.head(3, false, lead()...)...)
	d.hears(fmt.Sprintf("Stop 3 %d", proto))
	d.waits()
	d.logged(entry(0, 400, 3, 0, "-", "/"))
}

// Of a third one the stream has ended.
func TestThirdHead(t *testing.T) {
	for _, end := range []bool{false, true} {
		d := fresh(t)
		d.says(d.head(1, false, ":method", "PUT", ":path", "/", ":host", "h")...)
		d.says(d.head(1, true, "x", "y")...)
		d.waits(1)
		d.says(d.head(1, end, "x", "y")...)
		d.hears(fmt.Sprintf("Stop 1 %d", closed))
		d.waits()
		d.none(1)
		d.logged()
	}
}

// E1: of a second head without End the stream is stopped, and what came of it is gone.
func TestSecondHeadStops(t *testing.T) {
	for _, second := range [][]string{{}, {"x", "y"}, {":method", "GET", ":path", "/", ":host", "h"}} {
		for _, body := range [][]byte{nil, some(1), some(900)} {
			d := fresh(t)
			d.asks(1, get("/b"))
			d.says(d.head(3, false, ":method", "PUT", ":path", "/a/b", ":host", "h")...)
			if len(body) > 0 {
				d.says(pieces(3, false, body)...)
			}
			d.says(d.head(3, false, second...)...)
			d.hears(fmt.Sprintf("Stop 3 %d", proto))
			d.waits(1)
			// What still comes of it is nothing, but its fields count for those of others.
			d.says(data(3, false, some(9)))
			d.says(d.head(3, false, "new", "field")...)
			d.says(d.head(3, true, "newer", "field")...)
			d.says(data(3, true, nil))
			d.says(wide(3, 5), stop(3, 0))
			d.hears("")
			d.asks(5, with(with(get("/c"), "new", "field"), "newer", "field"))
			d.waits(1, 2)
			d.job(2, "one", asked(t, with(with(get(""), "new", "field"), "newer", "field"), "/c"))
			d.fails(1)
			d.getsNothing(3, 5)
			d.logged(entry(0, 504, 3, 0, "GET", "/b"))
		}
	}
}

// E1: a request whose stream was stopped ahead of its end is none.
func TestStoppedAhead(t *testing.T) {
	for _, how := range []func(d *desk) []api.Frame{
		func(d *desk) []api.Frame { return []api.Frame{stop(1, 7)} },
		func(d *desk) []api.Frame { return []api.Frame{wide(1, api.MaxWord)} },
		func(d *desk) []api.Frame { return d.head(1, false, "x", "y") },
	} {
		d := fresh(t)
		d.says(d.head(1, false, ":method", "PUT", ":path", "/", ":host", "h")...)
		d.says(data(1, false, some(5)))
		d.says(d.frames(3, get("/b"))...)
		d.says(how(d)...)
		d.waits(1)
		d.logged()
		d.done(1, told(t, 200, "tea"), false)
		d.gets(3, "[{:code 200} {length 3}]", "tea")
		d.getsNothing(1)
		d.logged(entry(0, 200, 3, 0, "GET", "/b"))
	}
}

// The other side's good-bye is no end of what it asked.
func TestByeHeard(t *testing.T) {
	d := fresh(t)
	d.asks(1, get("/b"))
	d.says(fr(api.Bye, 0, 0, word(0)+word(7)))
	d.asks(3, get("/c"))
	d.waits(1, 2)
	d.fails(1)
	d.getsAlone(1, 504)
}

// P2: what is fed is not changed, nor kept.
func TestFeedHandedIn(t *testing.T) {
	d := fresh(t)
	l := slices.Concat(d.frames(1, with(post("/a", 30), "x", "yy")), d.frames(3, get("/b")))
	b := bytesOf(t, l...)
	for cut := range b {
		d := fresh(t)
		for _, p := range [][]byte{b[:cut], b[cut:]} {
			in := make([]byte, len(p), len(p)+9)
			copy(in, p)
			d.is(d.Feed(in), api.OK)
			if !bytes.Equal(in, p) || !bytes.Equal(in[len(p):len(p)+9], make([]byte, 9)) {
				t.Fatalf("cut at %d: what was fed is changed", cut)
			}
			for i := range in[:cap(in)] {
				in[:cap(in)][i] = 0xEE
			}
		}
		d.job(1, "two", asked(t, with(post("", 30), "x", "yy"), "/"))
		d.job(2, "one", asked(t, get(""), "/b"))
	}
}

// What a Gate says first, and to Set, Ping and the like, is what a Conn says.
func TestSaysAsConn(t *testing.T) {
	g, err := New(nil, 1, 1)
	if err != nil {
		t.Fatal(err)
	}
	c := conn.New()
	for _, f := range []api.Frame{
		fr(api.Set, 0, 0, "\x00\x04"+word(3000)), fr(api.Ping, 0, 0, "abcdefgh"), fr(api.Set, 1, 0, ""),
		fr(77, 3, 9, "x"), fr(api.Head, 4, 1, ""), stop(1, 5), wide(0, 9), fr(api.Bye, 0, 0, "12345678more"), fr(api.More, 0, 1, ""),
	} {
		b := bytesOf(t, f)
		c.Feed(b)
		if err := g.Feed(b); err != nil {
			t.Errorf("%v: got %v", f, err)
		}
		if got, want := g.Out(), c.Out(); !bytes.Equal(got, want) {
			t.Errorf("%v: said %v, want %v", f, got, want)
		}
	}
}
