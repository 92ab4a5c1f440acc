package store

import (
	"math"
	"strconv"
	"testing"

	"tollgate/api"
)

// path of a number.
func path(n int) string { return "/" + strconv.Itoa(n) }

// full has n replies, of the paths 0 to n-1, put in this order, all at 10.
func full(t *testing.T, n int) *Store {
	t.Helper()
	s := New()
	for i := range n {
		put(t, s, get("h", path(i)), told(path(i), 50), 10)
	}
	return s
}

// checkHas asks that of the paths 0 to below-1 all are there but those that are gone.
func checkHas(t *testing.T, s *Store, below int, gone ...int) {
	t.Helper()
	out := map[int]bool{}
	for _, n := range gone {
		out[n] = true
	}
	for i := range below {
		_, _, err := s.Get(get("h", path(i)), 20)
		if out[i] != (err != nil) {
			t.Errorf("path %d: got %v; these were to be gone: %v", i, err, gone)
		}
	}
	checkLen(t, s, below-len(gone))
}

func TestPut(t *testing.T) {
	s := New()
	checkLen(t, s, 0)
	r, a := get("h", "/a", "x", "1"), told("tea", 9, "type", "text", "vary", "x")
	checkNone(t, s, r, 5)
	put(t, s, r, a, 5)
	checkLen(t, s, 1)
	checkGet(t, s, r, 5, a, 0)
	checkGet(t, s, r, 8, a, 3)
	// As good as none, and still a reply.
	bare := api.Reply{Code: 200, Fields: list("cache", "max-1")}
	put(t, s, get("", ""), bare, 5)
	checkGet(t, s, get("", ""), 5, bare, 0)
	checkLen(t, s, 2)
}

func TestPutTime(t *testing.T) {
	for _, now := range times {
		s := New()
		put(t, s, get("h", "/a"), told("a", 1), now)
		checkGet(t, s, get("h", "/a"), now, told("a", 1), 0)
	}
	s := full(t, 3)
	for _, now := range noTimes {
		refusePut(t, s, get("h", "/0"), told("new", 9), now, api.ErrRange)
		refusePut(t, s, get("h", "/new"), told("new", 9), now, api.ErrRange)
		// Whatever else keeps it from being kept.
		r := get("h", "/0")
		r.Method = "POST"
		refusePut(t, s, r, told("new", 9), now, api.ErrRange)
		refusePut(t, s, get("h", "/0"), api.Reply{Code: 404}, now, api.ErrRange)
		refusePut(t, s, get("h", "/0"), told("new", 0), now, api.ErrRange)
		refusePut(t, New(), api.Request{}, api.Reply{}, now, api.ErrRange)
	}
	checkHas(t, s, 3)
}

// It is not kept, and what fits stays.
func TestPutOfOthers(t *testing.T) {
	for _, n := range []int{0, 1, mostKept} {
		s := full(t, n)
		for _, now := range times {
			for _, path := range []string{"/0", "/new"} {
				r, a := get("h", path), told("new", 9)
				for _, method := range otherMethods {
					o := r
					o.Method = method
					refusePut(t, s, o, a, now, api.OK)
				}
				for _, code := range []int{-200, -1, 0, 1, 100, 199, 201, 204, 299, 304, 404, 500, 599, 2000, 200 + 1<<32, math.MinInt, math.MaxInt} {
					o := a
					o.Code = code
					refusePut(t, s, r, o, now, api.OK)
				}
				for _, value := range []string{"none", "max-0", "", "x", "max-", "max-09", "max-+9", "max--9", "max-9x", "max-1000001"} {
					refusePut(t, s, r, cached(value), now, api.OK)
					refusePut(t, s, r, cached(value, "max-9"), now, api.OK)
				}
				refusePut(t, s, r, api.Reply{Code: 200}, now, api.OK)
			}
		}
		checkHas(t, s, n)
	}
}

func TestPutInPlace(t *testing.T) {
	s := full(t, 3)
	a := told("new", 9, "type", "text")
	put(t, s, get("h", "/1"), a, 30)
	checkGet(t, s, get("h", "/1"), 30, a, 0)
	checkGet(t, s, get("h", "/0"), 30, told("/0", 50), 20)
	checkGet(t, s, get("h", "/2"), 30, told("/2", 50), 20)
	checkLen(t, s, 3)
	// What was there is gone, though it would live longer.
	checkNone(t, s, get("h", "/1"), 39)
	checkNone(t, s, get("h", "/1"), 29)
	// And one that lives no more, or that was put later, gives its place, too.
	put(t, s, get("h", "/1"), told("newer", 9), 5000)
	checkLen(t, s, 3)
	put(t, s, get("h", "/1"), told("older", 9), 3)
	checkLen(t, s, 3)
	checkGet(t, s, get("h", "/1"), 4, told("older", 9), 1)
	checkNone(t, s, get("h", "/1"), 5001)
}

// One that is put takes the place of all that fit, and of no others.
func TestPutInPlaceOfSeveral(t *testing.T) {
	s := New()
	put(t, s, get("h", "/a", "a", "1", "b", "1"), told("by a", 50, "vary", "a"), 10)
	put(t, s, get("h", "/a", "a", "2", "b", "1"), told("by b", 50, "vary", "b"), 10)
	put(t, s, get("h", "/a", "a", "2", "b", "2"), told("by a and b", 50, "vary", "a, b"), 10)
	put(t, s, get("k", "/a", "a", "1", "b", "1"), told("of k", 50), 10)
	put(t, s, get("h", "/b", "a", "1", "b", "1"), told("of b", 50), 10)
	checkLen(t, s, 5)
	r := get("h", "/a", "a", "1", "b", "1")
	checkGet(t, s, r, 11, told("by b", 50, "vary", "b"), 1)
	put(t, s, r, told("new", 50, "vary", "a"), 12)
	checkLen(t, s, 4)
	checkGet(t, s, r, 13, told("new", 50, "vary", "a"), 1)
	checkGet(t, s, get("h", "/a", "a", "2", "b", "2"), 13, told("by a and b", 50, "vary", "a, b"), 3)
	checkNone(t, s, get("h", "/a", "a", "2", "b", "1"), 13)
	checkGet(t, s, get("k", "/a", "a", "1", "b", "1"), 13, told("of k", 50), 3)
	checkGet(t, s, get("h", "/b", "a", "1", "b", "1"), 13, told("of b", 50), 3)
}

func TestPutFull(t *testing.T) {
	for n := range mostKept + 1 {
		checkHas(t, full(t, n), n)
	}
	var gone []int
	for n := mostKept + 1; n < 3*mostKept; n++ {
		gone = append(gone, n-mostKept-1)
		s := full(t, n)
		checkLen(t, s, mostKept)
		checkHas(t, s, n, gone...)
	}
}

// The one that goes is the one that was put first, whatever the times say, and whatever lives no more.
func TestPutFullByCalls(t *testing.T) {
	s := New()
	for i := range mostKept {
		put(t, s, get("h", path(i)), told(path(i), 1+i%3), mostTime-i)
	}
	for i := range mostKept {
		n := mostKept + i
		put(t, s, get("h", path(n)), told(path(n), mostTime), 0)
		checkLen(t, s, mostKept)
		checkNone(t, s, get("h", path(i)), mostTime-i)
		for j := i + 1; j < mostKept; j++ {
			checkGet(t, s, get("h", path(j)), mostTime-j, told(path(j), 1+j%3), 0)
		}
	}
}

// One that was put anew was put last.
func TestPutFullAnew(t *testing.T) {
	s := full(t, mostKept)
	put(t, s, get("h", "/0"), told("anew", 50), 11)
	checkHas(t, s, mostKept)
	put(t, s, get("h", "/3"), told("anew", 50), 9)
	checkHas(t, s, mostKept)
	for i, gone := range [][]int{{1}, {1, 2}, {1, 2, 4}} {
		n := mostKept + i
		put(t, s, get("h", path(n)), told("more", 50), 12)
		checkHas(t, s, n+1, gone...)
	}
	for i := 5; i < mostKept; i++ {
		put(t, s, get("k", path(i)), told("more", 50), 12)
	}
	checkGet(t, s, get("h", "/0"), 20, told("anew", 50), 9)
	checkGet(t, s, get("h", "/3"), 20, told("anew", 50), 11)
	put(t, s, get("k", "/"), told("more", 50), 12)
	checkNone(t, s, get("h", "/0"), 20)
	checkGet(t, s, get("h", "/3"), 20, told("anew", 50), 11)
	put(t, s, get("k", "/a"), told("more", 50), 12)
	checkNone(t, s, get("h", "/3"), 20)
	checkLen(t, s, mostKept)
}

// Where those that fit go, there is room: no other one goes.
func TestPutInPlaceOfFull(t *testing.T) {
	s := full(t, mostKept)
	for i := range mostKept {
		put(t, s, get("h", path(i)), told("anew", 50), 15)
		checkHas(t, s, mostKept)
	}
	s = full(t, mostKept-2)
	put(t, s, get("h", "/a", "a", "1", "b", "1"), told("by a", 50, "vary", "a"), 10)
	put(t, s, get("h", "/a", "a", "2", "b", "1"), told("by b", 50, "vary", "b"), 10)
	checkLen(t, s, mostKept)
	put(t, s, get("h", "/a", "a", "1", "b", "1"), told("both", 50), 10)
	checkLen(t, s, mostKept-1)
	put(t, s, get("h", "/b"), told("b", 50), 10)
	checkLen(t, s, mostKept)
	checkGet(t, s, get("h", "/0"), 20, told("/0", 50), 10)
	put(t, s, get("h", "/c"), told("c", 50), 10)
	checkLen(t, s, mostKept)
	checkNone(t, s, get("h", "/0"), 20)
	checkGet(t, s, get("h", "/1"), 20, told("/1", 50), 10)
}

// By vary one Path has many, which count each.
func TestPutFullOfOnePath(t *testing.T) {
	s := New()
	for i := range mostKept + 5 {
		put(t, s, get("h", "/a", "x", strconv.Itoa(i)), told(strconv.Itoa(i), 50, "vary", "x"), 10)
	}
	checkLen(t, s, mostKept)
	for i := range mostKept + 5 {
		r := get("h", "/a", "x", strconv.Itoa(i))
		if i < 5 {
			checkNone(t, s, r, 11)
		} else {
			checkGet(t, s, r, 11, told(strconv.Itoa(i), 50, "vary", "x"), 1)
		}
	}
}
