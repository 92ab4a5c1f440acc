package gate

import (
	"fmt"
	"math"
	"slices"
	"testing"

	"tollgate/api"
)

// Numbers that no job has where there are fewer than these.
var noIDs = []int{0, -1, -2, 99, 100, math.MinInt32, math.MinInt + 1, math.MinInt, math.MaxInt32, math.MaxUint32 + 2, math.MaxInt - 1, math.MaxInt}

// E2: ids rise, as requests become whole, and none is given twice; those that are answered at once have none.
func TestJobs(t *testing.T) {
	d := fresh(t)
	d.waits()
	d.none(noIDs...)
	d.asks(1, get("/a"))
	d.waits(1)
	d.says(d.head(3, false, lead()...)...)
	d.asks(5, get("*"))
	d.asks(7, get("/b"))
	d.says(d.head(9, true, "x", "y")...)
	d.waits(1, 2)
	d.says(data(3, true, some(3)))
	d.waits(1, 2, 3)
	d.job(2, "one", asked(t, get(""), "/b"))
	d.job(3, "two", asked(t, api.Request{Method: "PUT", Host: "h", Body: some(3)}, "/"))
	d.none(4)
	d.none(noIDs...)
	d.fails(2)
	d.waits(1, 3)
	d.asks(11, get("/c"))
	d.waits(1, 3, 4)
	d.fails(4)
	d.fails(1)
	d.fails(3)
	d.waits()
	d.asks(13, get("/d"))
	d.waits(5)
	d.none(1, 2, 3, 4, 6)
}

// E2: of many jobs those that wait are told, rising.
func TestManyJobs(t *testing.T) {
	d := fresh(t)
	var want []int
	id := 0
	for stream := 1; stream < 400; stream += 2 {
		d.asks(stream, get(fmt.Sprint("/", stream)))
		id++
		want = append(want, id)
		if len(want) == 16 {
			at := stream % 16
			d.fails(want[at])
			want = slices.Delete(want, at, at+1)
		}
		d.waits(want...)
	}
}

// E2: the place, and the request with Rest as its Path.
func TestJob(t *testing.T) {
	d := made(t, []api.Route{
		{Path: "/", To: "all"}, {Path: "/a", To: "A"}, {Host: "h", Path: "/a/b/", To: "b"}, {Path: "/a/b/c", To: "x-1_Z"},
	}, mostTime, mostTime)
	long := "/" + xs(399)
	for i, c := range []struct{ host, path, to, rest string }{
		{"h", "/", "all", "/"}, {"h", "/x/y", "all", "/x/y"}, {"h", "/ab", "all", "/ab"}, {"h", "//", "all", "/"}, {"h", long, "all", long},
		{"h", "/a", "A", "/"}, {"i", "/a/b/d", "A", "/b/d"}, {"h", "/a//", "A", "//"}, {"h", "/a/bc", "A", "/bc"}, {"h", "/a/b", "A", "/b"},
		{"h", "/a/b/", "b", "/"}, {"h", "/a/b/d?e=f", "b", "/d?e=f"}, {"h", "/a/b/c", "x-1_Z", "/"}, {"i", "/a/b/c/d", "x-1_Z", "/d"},
	} {
		r := api.Request{Method: "M-1", Path: c.path, Host: c.host, Fields: []api.Field{{Name: "x", Value: "1"}, {Name: "cookie", Value: "a; b"}, {Name: "x", Value: ""}}, Body: some(i)}
		d.asks(1+2*i, r)
		d.job(i+1, c.to, asked(t, r, c.rest))
	}
}

// E2: as chapter 10 writes it: cookies are one, the length is behind all, and its own.
func TestJobAsWritten(t *testing.T) {
	d := fresh(t)
	d.says(d.head(1, false, lead("cookie", "a", "length", "4", "accept", "*", "cookie", "b")...)...)
	d.says(data(1, false, []byte("te")), data(1, true, []byte("a\n")))
	d.job(1, "two", []byte("PUT / EDGE/1\r\nhost: h\r\ncookie: a; b\r\naccept: *\r\nlength: 4\r\n\r\ntea\n"))
	d.says(d.head(3, true, ":host", "i", ":path", "/a", ":method", "GET", "length", "0")...)
	d.job(2, "one", []byte("GET /a EDGE/1\r\nhost: i\r\n\r\n"))
}

// P2: what Job tells is new memory.
func TestJobMemory(t *testing.T) {
	d := fresh(t)
	d.asks(1, post("/a/b", 50))
	d.asks(3, get("/b"))
	for range 3 {
		_, ask, err := d.Job(1)
		d.is(err, api.OK)
		for i := range ask[:cap(ask)] {
			ask[:cap(ask)][i] = 0xEE
		}
		jobs := d.Jobs()
		for i := range jobs[:cap(jobs)] {
			jobs[:cap(jobs)][i] = 77
		}
		d.waits(1, 2)
		d.job(1, "two", asked(t, post("", 50), "/b"))
	}
}

// E2: a job whose stream is stopped is none, and is not answered; others are not touched.
func TestJobStopped(t *testing.T) {
	for _, c := range []struct {
		how  func(d *desk) []api.Frame
		said string
	}{
		{func(d *desk) []api.Frame { return []api.Frame{stop(3, 0)} }, ""},
		{func(d *desk) []api.Frame { return []api.Frame{stop(3, 7), stop(3, 0)} }, ""},
		{func(d *desk) []api.Frame { return []api.Frame{data(3, true, nil)} }, fmt.Sprint("Stop 3 ", closed)},
		{func(d *desk) []api.Frame { return []api.Frame{data(3, false, some(9))} }, fmt.Sprint("Stop 3 ", closed)},
		{func(d *desk) []api.Frame { return d.head(3, true, "x", "y") }, fmt.Sprint("Stop 3 ", closed)},
		{func(d *desk) []api.Frame { return []api.Frame{wide(3, api.MaxWord)} }, fmt.Sprint("Stop 3 ", flowCode)},
	} {
		d := fresh(t)
		d.asks(1, get("/a"))
		d.asks(3, get("/b"))
		d.asks(5, post("/c", 5))
		d.says(wide(3, 1))
		d.waits(1, 2, 3)
		d.says(c.how(d)...)
		d.hears(c.said)
		d.waits(1, 3)
		d.none(2)
		d.job(1, "two", asked(t, get(""), "/"))
		d.job(3, "one", asked(t, post("", 5), "/c"))
		d.asks(7, get("/d"))
		d.waits(1, 3, 4)
		d.done(3, told(t, 200, "tea"), false)
		d.fails(1)
		d.gets(5, "[{:code 200} {length 3}]", "tea")
		d.getsAlone(1, 504)
		d.getsNothing(3, 7)
		d.logged(entry(0, 200, 3, 0, "POST", "/c"), entry(0, 504, 3, 0, "GET", "/a"))
	}
}

// A Stop of a stream that was answered already, or is none, ends no job.
func TestStopOfOthers(t *testing.T) {
	d := fresh(t)
	d.asks(1, get("/a"))
	d.asks(3, get("*"))
	d.asks(9, get("/b"))
	d.fails(1)
	d.says(stop(1, 0), stop(3, 0), stop(5, 0), stop(7, 0))
	d.hears("")
	d.waits(2)
	d.job(2, "one", asked(t, get(""), "/b"))
}
