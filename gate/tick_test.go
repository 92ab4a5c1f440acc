package gate

import (
	"slices"
	"testing"

	"tollgate/api"
)

// timeIs asks by a request that is answered at once.
func (d *desk) timeIs(stream, now int) {
	d.t.Helper()
	d.asks(stream, get("*"))
	l := d.Log()
	if got := l[len(l)-1]; got != entry(now, 404, 3, 0, "GET", "*") {
		d.t.Errorf("logged %v, want the time %d", got, now)
	}
}

// E2: times that may be, and those that may not; behind an error the time is as it was.
func TestTick(t *testing.T) {
	d := fresh(t)
	d.timeIs(1, 0)
	stream := 3
	at := func(now int) {
		d.t.Helper()
		d.timeIs(stream, now)
		stream += 2
	}
	for _, now := range []int{0, 0, 1, 2, 2, 77, mostTime - 1, mostTime, mostTime} {
		d.ticks(now)
		at(now)
		for _, n := range noTimes {
			d.is(d.Tick(n), api.ErrRange)
		}
		at(now)
		for _, less := range []int{now - 1, now / 2, 1, 0} {
			if less >= 0 && less < now {
				d.is(d.Tick(less), api.ErrState)
			}
		}
		at(now)
		d.ticks(now)
		at(now)
	}
}

// E1, E2: the Limit goes by the time, and behind an error by that ahead.
func TestTickLimit(t *testing.T) {
	d := made(t, roads(), 1, 2)
	code := func(stream, want int) {
		t.Helper()
		d.asks(stream, get("*"))
		d.getsAlone(stream, want)
	}
	code(1, 404)
	code(3, 404)
	code(5, 429)
	for _, n := range noTimes {
		d.is(d.Tick(n), api.ErrRange)
	}
	code(7, 429)
	d.ticks(1)
	code(9, 404)
	code(11, 429)
	d.is(d.Tick(0), api.ErrState)
	code(13, 429)
	d.ticks(1)
	code(15, 429)
	d.ticks(9)
	code(17, 404)
	code(19, 404)
	code(21, 429)
}

// E2: how long it took counts from when it was whole.
func TestTook(t *testing.T) {
	d := fresh(t)
	d.says(d.head(1, false, lead()...)...)
	d.asks(3, get("/a"))
	d.ticks(5)
	d.says(data(1, false, some(7)))
	d.ticks(8)
	d.says(data(1, true, nil))
	d.ticks(20)
	d.fails(2)
	d.ticks(mostTime)
	d.done(1, told(t, 200, "tea"), false)
	d.logged(entry(20, 504, 3, 12, "PUT", "/a"), entry(mostTime, 200, 3, mostTime, "GET", "/a"))
}

// E2: one entry for each that was answered, in the order of the answers; none for what was stopped, or waits.
func TestLog(t *testing.T) {
	d := fresh(t)
	for stream := 1; stream < 12; stream += 2 {
		d.asks(stream, get("/a"))
	}
	d.logged()
	d.fails(4)
	d.ticks(1)
	d.done(2, told(t, 200, "", "cache", "max-9"), false)
	d.says(stop(9, 0)) // job 5
	d.asks(13, get("*"))
	d.ticks(3)
	d.asks(15, get("/a")) // of the Store
	d.done(6, told(t, 299, string(some(mostBody))), false)
	d.says(d.head(17, true, "x", "y")...)
	d.says(d.head(19, false, lead()...)...)
	d.says(stop(19, 0))
	d.done(1, nil, false)
	want := []api.Entry{
		entry(0, 504, 3, 0, "GET", "/a"), entry(1, 200, 0, 1, "GET", "/a"), entry(1, 404, 3, 0, "GET", "*"), entry(3, 200, 0, 0, "GET", "/a"),
		entry(3, 299, 8000, 3, "GET", "/a"), entry(3, 400, 3, 0, "-", "/"), entry(3, 502, 3, 3, "GET", "/a"),
	}
	d.logged(want...)
	d.waits(3)
	d.says(stop(15, 0), stop(1, 0), stop(5, 0))
	d.logged(want...)
	// P2: it is the caller's.
	l := d.Log()
	clear(l)
	_ = append(l[:0], api.Entry{Code: 1}, api.Entry{Code: 2})
	d.logged(want...)
	kept := d.Log()
	d.asks(21, get("*"))
	if !slices.Equal(kept, want) {
		t.Errorf("what was told is changed: %v", kept)
	}
}

// E2: Method and Path as they were asked, also of what a place answers with the codes of what cannot be read.
func TestLogAsAsked(t *testing.T) {
	d := fresh(t)
	r := api.Request{Method: "m_1", Path: "/a/b?c", Host: "h"}
	for i, code := range []int{400, 413, 100, 599} {
		d.asks(1+2*i, r)
		d.done(1+i, told(t, code, "tea"), false)
	}
	d.logged(entry(0, 400, 3, 0, "m_1", "/a/b?c"), entry(0, 413, 3, 0, "m_1", "/a/b?c"), entry(0, 100, 0, 0, "m_1", "/a/b?c"), entry(0, 599, 3, 0, "m_1", "/a/b?c"))
}
