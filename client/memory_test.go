package client

import (
	"bytes"
	"slices"
	"testing"

	"tollgate/api"
)

// roomy is a list whose memory goes on behind its length.
func roomy[T any](l []T, behind T) []T {
	r := append(make([]T, 0, len(l)+9), l...)
	spoil(r[len(l):], behind)
	return r
}

// spoil writes all over a list and what lies behind it.
func spoil[T any](l []T, with T) {
	l = l[:cap(l)]
	for i := range l {
		l[i] = with
	}
}

var strange = api.Field{Name: "strange", Value: "s"}

// What is asked is not changed, nor kept, while it waits.
func TestAskHandedIn(t *testing.T) {
	field := []api.Field{{Name: "x", Value: "y"}, {Name: "cookie", Value: "a; b"}}
	ask := func(c talk) []byte {
		r := api.Request{Method: "PUT", Path: "/", Host: "h", Fields: roomy(field, strange), Body: roomy(some(3000), 0xEE)}
		c.asks(r)
		if l := r.Fields[:cap(r.Fields)]; !slices.Equal(l[:2], field) || slices.ContainsFunc(l[2:], func(f api.Field) bool { return f != strange }) {
			t.Error("the fields are changed")
		}
		if b := r.Body[:cap(r.Body)]; !bytes.Equal(b, roomy(some(3000), 0xEE)[:cap(r.Body)]) {
			t.Error("the body is changed")
		}
		spoil(r.Fields, strange)
		spoil(r.Body, 0xEE)
		out := c.Out()
		c.hears(wide(0, 5000), wide(1, 5000))
		return append(out, c.Out()...)
	}
	c := fresh(t)
	var body []byte
	for _, f := range framesOf(t, ask(c))[1:] {
		body = append(body, f.Body...)
	}
	if !bytes.Equal(body, some(3000)) {
		t.Error("another body goes")
	}
	// All of its fields have numbers now, as they were.
	c.asks(api.Request{Method: "PUT", Path: "/", Host: "h", Fields: field})
	c.says(hd(3, true, "\x91\x83\x90\x8f\x8e\x8d"))
}

// What is fed is not changed, nor kept: not what is cut, nor heads that are not whole, nor bodies.
func TestFeedHandedIn(t *testing.T) {
	b := bytesOf(t, twoReplies()...)
	for cut := 0; cut <= len(b); cut += 3 {
		c := fresh(t, get, post(4), get)
		for _, p := range [][]byte{b[:cut], b[cut:]} {
			in := roomy(p, 0xEE)
			c.is(c.Feed(in), api.OK)
			if !bytes.Equal(in[:cap(in)], roomy(p, 0xEE)[:cap(in)]) {
				t.Fatalf("cut at %d: what was fed is changed", cut)
			}
			spoil(in, 0xDD)
		}
		checkTwoReplies(c)
	}
}

// What comes out is the caller's: written all over, it changes nothing that is told later.
func TestNewMemory(t *testing.T) {
	c := fresh(t, get, post(4), get)
	b := bytesOf(t, twoReplies()...)
	for p := range slices.Chunk(b, 100) {
		c.is(c.Feed(p), api.OK)
		for _, id := range []int{1, 3, 5} {
			r, _ := c.Reply(id)
			other, _ := c.Reply(id)
			spoil(r.Fields, strange)
			spoil(r.Body, 0xEE)
			if slices.Contains(other.Fields, strange) || len(r.Body) > 0 && bytes.Equal(other.Body, r.Body) {
				t.Errorf("two answers of %d share memory", id)
			}
		}
		spoil(c.Open(), 77)
	}
	out := c.Out()
	want := bytes.Clone(out)
	c.is(c.Grant(5), api.OK)
	c.is(c.Feed(bytesOf(t, fr(api.Ping, 0, 0, "abcdefgh"))), api.OK)
	if !bytes.Equal(out, want) {
		t.Error("what Out gave is written into")
	}
	spoil(out, 0xEE)
	c.says(wide(0, 5), fr(api.Ping, api.End, 0, "abcdefgh"))
	c = fresh(t, get, post(4), get)
	c.is(c.Feed(b), api.OK)
	spoil(c.Open(), 77)
	checkTwoReplies(c)
}

// Two Clients have nothing in common.
func TestApart(t *testing.T) {
	a, b := fresh(t, get), fresh(t, get)
	a.hears(hd(1, true, code200+added), farewell(0, 9))
	b.isOpen(1)
	if b.Code() != 0 {
		t.Errorf("Code: got %d", b.Code())
	}
	b.asks(get)
	b.fails(hd(1, true, newest))
	a.is(a.Grant(1), api.OK)
}

// What goes out when it is taken piece by piece is the same as at once.
func TestOutAtOnce(t *testing.T) {
	run := func(often bool) (out []byte) {
		c := talk{t, New()}
		do := func() {
			if often {
				out = append(out, c.Out()...)
			}
		}
		for range 5 {
			c.asks(post(900), get)
			do()
			c.hears(wide(0, 300), wide(1, 50))
			do()
			c.hears(data(1, false, some(40)), fr(api.Ping, 0, 0, "12345678"))
			do()
			c.is(c.Grant(8), api.OK)
			do()
			c.hears(set(api.SetWindow, 2100))
			do()
		}
		return append(out, c.Out()...)
	}
	if !bytes.Equal(run(true), run(false)) {
		t.Error("other bytes go out")
	}
}
