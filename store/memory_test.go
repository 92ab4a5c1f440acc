package store

import (
	"bytes"
	"slices"
	"testing"

	"tollgate/api"
)

// roomy list whose memory goes on behind its length, with something else there.
func roomy[T any](l []T, behind T) []T {
	r := append(make([]T, 0, len(l)+9), l...)
	fill(r[len(l):], behind)
	return r
}

// fill writes all over a list and what lies behind it.
func fill[T any](l []T, with T) {
	l = l[:cap(l)]
	for i := range l {
		l[i] = with
	}
}

var spoilt = api.Field{Name: "x", Value: "spoilt"}

func spoilRequest(r api.Request) {
	fill(r.Fields, spoilt)
	fill(r.Body, '!')
}

func spoilReply(a api.Reply) {
	fill(a.Fields, spoilt)
	fill(a.Body, '!')
}

func roomyRequest() api.Request {
	r := get("h", "/a", "x", "1", "y", "2", "x", "3")
	r.Fields, r.Body = roomy(r.Fields, spoilt), roomy([]byte("asked"), '!')
	return r
}

func roomyReply() api.Reply {
	a := told("tea", 9, "vary", "x, y", "type", "text")
	a.Fields, a.Body = roomy(a.Fields, spoilt), roomy(a.Body, '!')
	return a
}

// What is put and changed afterwards by the caller does not change what is kept.
func TestPutKeepsNoMemory(t *testing.T) {
	s, r, a := New(), roomyRequest(), roomyReply()
	put(t, s, r, a, 5)
	spoilRequest(r)
	spoilReply(a)
	checkGet(t, s, roomyRequest(), 6, roomyReply(), 1)
	checkNone(t, s, r, 6)
	// Nor does what one Put took change by what the next one takes, from the same memory.
	put(t, s, r, roomyReply(), 7)
	checkLen(t, s, 2)
	checkGet(t, s, roomyRequest(), 8, roomyReply(), 3)
	checkGet(t, s, r, 8, roomyReply(), 1)
}

// What is asked for and changed afterwards, too.
func TestGetKeepsNoMemory(t *testing.T) {
	s := New()
	put(t, s, roomyRequest(), roomyReply(), 5)
	before := deep(s)
	r := roomyRequest()
	checkGet(t, s, r, 6, roomyReply(), 1)
	spoilRequest(r)
	checkSame(t, s, before, "the caller")
}

// What came out is the caller's, and each time another memory.
func TestGetIsNewMemory(t *testing.T) {
	s := New()
	put(t, s, roomyRequest(), roomyReply(), 5)
	first, _, _ := s.Get(roomyRequest(), 6)
	second, _, _ := s.Get(roomyRequest(), 6)
	spoilReply(first)
	if !sameReply(second, roomyReply()) {
		t.Errorf("the second is %s", short(second))
	}
	checkGet(t, s, roomyRequest(), 7, roomyReply(), 2)
	spoilReply(second)
	checkGet(t, s, roomyRequest(), 7, roomyReply(), 2)
	// It stays the caller's when it goes from the Store.
	third, _, _ := s.Get(roomyRequest(), 6)
	put(t, s, roomyRequest(), told("new", 9), 8)
	checkDrop(t, s, "/a", 1)
	if !sameReply(third, roomyReply()) {
		t.Errorf("the third is %s", short(third))
	}
}

// What is handed in is not changed, nor what lies behind it, and that is not read.
func TestHandedIn(t *testing.T) {
	s := New()
	for range 3 {
		r, a := roomyRequest(), roomyReply()
		// A name, a life and a vary that lie behind the lengths.
		a.Fields = roomy(list("type", "text"), api.Field{Name: "cache", Value: "max-5"})
		checkLife(t, a, 0)
		refusePut(t, s, r, a, 5, api.OK)
		a = roomyReply()
		put(t, s, r, a, 5)
		checkGet(t, s, r, 6, a, 1)
		checkLife(t, a, 9)
		if got, want := r.Fields[:cap(r.Fields)], roomyRequest().Fields; !slices.Equal(got, want[:cap(want)]) {
			t.Errorf("the request's fields are %s", short(got))
		}
		if got, want := a.Fields[:cap(a.Fields)], roomyReply().Fields; !slices.Equal(got, want[:cap(want)]) {
			t.Errorf("the reply's fields are %s", short(got))
		}
		if got, want := r.Body[:cap(r.Body)], roomyRequest().Body; !bytes.Equal(got, want[:cap(want)]) {
			t.Errorf("the request's body is %q", got)
		}
		if got, want := a.Body[:cap(a.Body)], roomyReply().Body; !bytes.Equal(got, want[:cap(want)]) {
			t.Errorf("the reply's body is %q", got)
		}
	}
	// A field of the request that lies behind its length is none of its fields.
	short, long := get("h", "/b", "y", "2"), get("h", "/b", "y", "2")
	short.Fields = roomy(short.Fields, api.Field{Name: "x", Value: "1"})
	put(t, s, short, told("b", 9, "vary", "x"), 5)
	checkGet(t, s, long, 6, told("b", 9, "vary", "x"), 1)
	checkNone(t, s, get("h", "/b", "y", "2", "x", "1"), 6)
}

// An empty list and nil are the same.
func TestEmptyLists(t *testing.T) {
	s := New()
	r := get("h", "/a")
	r.Fields, r.Body = []api.Field{}, []byte{}
	a := told("", 9)
	a.Body = nil
	put(t, s, r, a, 5)
	checkGet(t, s, get("h", "/a"), 6, told("", 9), 1)
	put(t, s, get("h", "/a"), told("", 9), 5)
	checkGet(t, s, r, 6, a, 1)
	checkLen(t, s, 1)
}
