package gate

import (
	"bytes"
	"fmt"
	"testing"

	"tollgate/api"
	"tollgate/plain"
)

// manyRoads are so many routes, of which none is wrong.
func manyRoads(n int) (l []api.Route) {
	for i := range n {
		l = append(l, api.Route{Path: fmt.Sprint("/", i), To: "one"})
	}
	return l
}

func checkNoNew(t *testing.T, routes []api.Route, rate, burst int, want api.Errno) {
	t.Helper()
	if g, err := New(routes, rate, burst); g != nil || plain.Told(err) != want {
		t.Errorf("New(%d routes, %d, %d): got %v, %v, want %v", len(routes), rate, burst, g, err, want)
	}
}

// E1: Check's errors, ahead of those of a Limit.
func TestNewRoutes(t *testing.T) {
	double := append(roads(), api.Route{Path: "/", To: "two"})
	for _, c := range []struct {
		routes []api.Route
		want   api.Errno
	}{
		{manyRoads(21), api.ErrFull},
		{append(manyRoads(20), api.Route{}), api.ErrFull},
		{[]api.Route{{Path: "a", To: "one"}}, api.ErrSyntax},
		{[]api.Route{{Host: "a b", Path: "/", To: "one"}}, api.ErrSyntax},
		{append(roads(), api.Route{Path: "/b", To: ""}), api.ErrSyntax},
		{append(roads(), api.Route{Path: "/b c", To: "one"}), api.ErrSyntax},
		{double, api.ErrClash},
		{append(double, api.Route{}), api.ErrClash},
		{append(append(roads(), api.Route{}), double...), api.ErrSyntax},
	} {
		for _, n := range []int{1, 0, -1, mostTime, mostTime + 1} {
			checkNoNew(t, c.routes, n, 5, c.want)
			checkNoNew(t, c.routes, 5, n, c.want)
			checkNoNew(t, c.routes, n, n, c.want)
		}
	}
	made(t, nil, 1, 1)
	made(t, manyRoads(20), 1, 1)
}

// E1: a Limit's errors.
func TestNewLimit(t *testing.T) {
	for _, n := range append(noTimes, 0) {
		for _, routes := range [][]api.Route{nil, roads()} {
			checkNoNew(t, routes, n, 1, api.ErrRange)
			checkNoNew(t, routes, 1, n, api.ErrRange)
			checkNoNew(t, routes, n, n, api.ErrRange)
		}
	}
	for _, n := range []int{1, 2, mostTime - 1, mostTime} {
		made(t, roads(), n, 1)
		made(t, roads(), 1, n)
	}
}

// E1: a new one has no jobs and no log, and says what a Conn says first.
func TestNewGate(t *testing.T) {
	g, err := New(roads(), 1, 1)
	if err != nil {
		t.Fatal(err)
	}
	if jobs, log := g.Jobs(), g.Log(); len(jobs) > 0 || len(log) > 0 {
		t.Errorf("got jobs %v, log %v", jobs, log)
	}
	if b := g.Out(); !bytes.Equal(b, []byte{0, 0, 0, 4, 0, 0, 0, 0, 0}) {
		t.Errorf("said first: %v", b)
	}
	if b := g.Out(); len(b) > 0 {
		t.Errorf("said then: %v", b)
	}
	made(t, roads(), 1, 1).none(-1, 0, 1, 2)
}

// P2: routes are not kept, nor written into.
func TestRoutesHandedIn(t *testing.T) {
	in := make([]api.Route, 3)
	copy(in, roads())
	d := made(t, in[:2], 5, 5)
	for i, r := range append(roads(), api.Route{}) {
		if in[i] != r {
			t.Errorf("route %d is changed: %v", i, in[i])
		}
		in[i] = api.Route{Path: "/z", To: "z"}
	}
	d.asks(1, get("/a/b"))
	d.asks(3, get("/z"))
	d.job(1, "two", asked(t, get(""), "/b"))
	d.job(2, "one", asked(t, get(""), "/z"))
}

// Two Gates have nothing in common.
func TestApart(t *testing.T) {
	a, b := made(t, roads(), 1, 1), made(t, nil, 1, 1)
	a.asks(1, get("/"))
	a.ticks(9)
	b.asks(1, get("/"))
	b.ticks(3)
	a.waits(1)
	b.waits()
	a.logged()
	b.logged(entry(0, 404, 3, 0, "GET", "/"))
	a.done(1, told(t, 200, "", "cache", "max-9"), false)
	a.gets(1, "[{:code 200} {cache max-9} {length 0}]", "")
	b.none(1)
}
