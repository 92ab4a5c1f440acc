package store

import (
	"bytes"
	"fmt"
	"math"
	"reflect"
	"slices"
	"strconv"
	"strings"
	"testing"

	"tollgate/api"
	"tollgate/plain"
)

const (
	mostTime = 1_000_000
	mostKept = 20
	mostText = 400 // bytes of a Token
)

const tokenBytes = "abcdefghijklmnopqrstuvwxyzABCDEFGHIJKLMNOPQRSTUVWXYZ0123456789-_"

// Numbers that no now may be, and some that it may.
var (
	noTimes = []int{-1, -2, -mostTime, math.MinInt32, math.MinInt + 1, math.MinInt, mostTime + 1, mostTime + 2, 2 * mostTime, math.MaxInt32, math.MaxUint32 + 2, math.MaxInt - 1, math.MaxInt}
	times   = []int{0, 1, 500, mostTime - 1, mostTime}
)

// methods that are not GET.
var otherMethods = []string{"", "POST", "HEAD", "PUT", "get", "Get", "GET ", " GET", "GE", "GETS", "G\x00T"}

// list of fields: names, each with its value behind it.
func list(pairs ...string) (l []api.Field) {
	for i := 0; i+1 < len(pairs); i += 2 {
		l = append(l, api.Field{Name: pairs[i], Value: pairs[i+1]})
	}
	return l
}

// get is a request with fields.
func get(host, path string, pairs ...string) api.Request {
	return api.Request{Method: "GET", Host: host, Path: path, Fields: list(pairs...)}
}

// told is a reply that may be told for life, with fields; what is its body.
func told(what string, life int, pairs ...string) api.Reply {
	l := append(list("cache", "max-"+strconv.Itoa(life)), list(pairs...)...)
	return api.Reply{Code: 200, Fields: l, Body: []byte(what)}
}

// one byte as a text.
func one(c int) string { return string([]byte{byte(c)}) }

func short(v any) string {
	s := fmt.Sprintf("%q", v)
	if len(s) > 200 {
		return s[:200] + " .. (" + strconv.Itoa(len(s)) + ")"
	}
	return s
}

func sameReply(a, b api.Reply) bool {
	return a.Code == b.Code && slices.Equal(a.Fields, b.Fields) && bytes.Equal(a.Body, b.Body)
}

// deep is a copy of what a Store has that shares no memory with it.
func deep(s *Store) (l []kept) {
	for _, k := range s.all {
		k.varied, k.reply = slices.Concat(k.varied), copyOf(k.reply)
		l = append(l, k)
	}
	return l
}

// checkSame asks that a Store has what it had.
func checkSame(t *testing.T, s *Store, before []kept, what string) {
	t.Helper()
	if after := deep(s); !reflect.DeepEqual(after, before) {
		t.Errorf("%s has changed it: %s, before %s", what, short(after), short(before))
	}
}

func checkLife(t *testing.T, a api.Reply, want int) {
	t.Helper()
	if got := Life(a); got != want {
		t.Errorf("Life of %s: got %d, want %d", short(a), got, want)
	}
}

// put asks that a reply is kept.
func put(t *testing.T, s *Store, r api.Request, a api.Reply, now int) {
	t.Helper()
	if ok, err := s.Put(r, a, now); !ok || err != nil {
		t.Errorf("Put of %s, %s, %d: got %v %v, want true", short(r), short(a), now, ok, err)
	}
}

// refusePut asks that a reply is not kept, and nothing is changed.
func refusePut(t *testing.T, s *Store, r api.Request, a api.Reply, now int, e api.Errno) {
	t.Helper()
	before := deep(s)
	if ok, err := s.Put(r, a, now); ok || plain.Told(err) != e {
		t.Errorf("Put of %s, %s, %d: got %v %v, want false %v", short(r), short(a), now, ok, err, e)
	}
	checkSame(t, s, before, "Put")
}

// checkGet asks that it is this reply that is found, so old, and nothing is changed.
func checkGet(t *testing.T, s *Store, r api.Request, now int, want api.Reply, old int) {
	t.Helper()
	before := deep(s)
	if got, age, err := s.Get(r, now); !sameReply(got, want) || age != old || err != nil {
		t.Errorf("Get of %s, %d: got %s %d %v, want %s %d", short(r), now, short(got), age, err, short(want), old)
	}
	checkSame(t, s, before, "Get")
}

func refuseGet(t *testing.T, s *Store, r api.Request, now int, e api.Errno) {
	t.Helper()
	before := deep(s)
	got, age, err := s.Get(r, now)
	if got.Code != 0 || len(got.Fields) != 0 || len(got.Body) != 0 || age != 0 || plain.Told(err) != e {
		t.Errorf("Get of %s, %d: got %s %d %v, want %v", short(r), now, short(got), age, err, e)
	}
	checkSame(t, s, before, "Get")
}

// checkNone asks that nothing is found.
func checkNone(t *testing.T, s *Store, r api.Request, now int) {
	t.Helper()
	refuseGet(t, s, r, now, api.ErrNone)
}

func checkLen(t *testing.T, s *Store, want int) {
	t.Helper()
	if got := s.Len(); got != want {
		t.Errorf("Len: got %d, want %d", got, want)
	}
}

func checkDrop(t *testing.T, s *Store, path string, want int) {
	t.Helper()
	before := s.Len()
	if got := s.Drop(path); got != want {
		t.Errorf("Drop of %s: got %d, want %d", short(path), got, want)
	}
	checkLen(t, s, before-want)
}

// checkFit asks whether what is kept for one request fits another, by Get, and by Put, in whose
// place then the other's reply is, or beside which it is.
func checkFit(t *testing.T, vary []string, kept, other api.Request, want bool) {
	t.Helper()
	s := New()
	a, b := told("a", 10, vary...), told("b", 10)
	put(t, s, kept, a, 5)
	if want {
		checkGet(t, s, other, 6, a, 1)
	} else {
		checkNone(t, s, other, 6)
	}
	put(t, s, other, b, 6)
	checkGet(t, s, other, 6, b, 0)
	if want {
		checkLen(t, s, 1)
	} else {
		checkLen(t, s, 2)
	}
	if t.Failed() {
		t.Fatalf("vary %s: %s and %s", short(vary), short(kept), short(other))
	}
}

func xs(n int) string { return strings.Repeat("x", n) }
