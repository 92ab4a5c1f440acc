package store

import (
	"slices"
	"testing"

	"tollgate/api"
)

func TestGetTime(t *testing.T) {
	s := full(t, 3)
	put(t, s, get("h", "/first"), told("first", mostTime), 0)
	put(t, s, get("h", "/last"), told("last", mostTime), mostTime)
	for _, now := range noTimes {
		refuseGet(t, s, get("h", "/0"), now, api.ErrRange)
		refuseGet(t, s, get("h", "/first"), now, api.ErrRange)
		refuseGet(t, s, get("h", "/last"), now, api.ErrRange)
		// Ahead of there being none.
		refuseGet(t, s, get("h", "/none"), now, api.ErrRange)
		refuseGet(t, New(), get("h", "/0"), now, api.ErrRange)
		r := get("h", "/0")
		r.Method = "POST"
		refuseGet(t, s, r, now, api.ErrRange)
	}
	checkGet(t, s, get("h", "/first"), 0, told("first", mostTime), 0)
	checkGet(t, s, get("h", "/first"), mostTime-1, told("first", mostTime), mostTime-1)
	checkNone(t, s, get("h", "/first"), mostTime)
	checkGet(t, s, get("h", "/last"), mostTime, told("last", mostTime), 0)
	checkNone(t, s, get("h", "/last"), mostTime-1)
}

func TestGetOfOtherMethods(t *testing.T) {
	s := full(t, mostKept)
	for _, now := range []int{0, 10, 20, mostTime} {
		for _, method := range otherMethods {
			r := get("h", "/0")
			r.Method = method
			checkNone(t, s, r, now)
			checkNone(t, New(), r, now)
		}
	}
	checkHas(t, s, mostKept)
}

func TestGetNone(t *testing.T) {
	for _, now := range times {
		checkNone(t, New(), get("h", "/0"), now)
		checkNone(t, New(), api.Request{}, now)
		checkNone(t, New(), get("", ""), now)
	}
	s := full(t, 3)
	for _, r := range []api.Request{{}, get("", ""), get("h", ""), get("", "/0"), get("H", "/0"), get("h", "/3"), get("h", "/0/"), get("h", "/00"), get("/0", "h"), get("h", "0")} {
		checkNone(t, s, r, 20)
	}
	// What the request has beside it does not matter.
	r := get("h", "/0", "cache", "none", "vary", "x")
	r.Body = []byte("tea")
	checkGet(t, s, r, 20, told("/0", 50), 10)
}

// It was put less than its Life ago.
func TestGetLife(t *testing.T) {
	for _, life := range []int{1, 2, 3, 10, 999, mostTime - 1, mostTime} {
		for _, at := range []int{0, 1, 7, 500_000, mostTime} {
			s := New()
			put(t, s, get("h", "/a"), told("a", life), at)
			for _, age := range []int{0, 1, 2, life / 2, life - 2, life - 1} {
				if age >= 0 && age < life && at+age <= mostTime {
					checkGet(t, s, get("h", "/a"), at+age, told("a", life), age)
				}
			}
			for _, age := range []int{life, life + 1, 2 * life, mostTime - at} {
				if age >= life && at+age <= mostTime {
					checkNone(t, s, get("h", "/a"), at+age)
				}
			}
			// Later than now.
			for _, now := range []int{0, 1, at - life, at - 2, at - 1} {
				if now >= 0 && now < at {
					checkNone(t, s, get("h", "/a"), now)
				}
			}
			// It is there all the while.
			checkGet(t, s, get("h", "/a"), at, told("a", life), 0)
			checkLen(t, s, 1)
		}
	}
}

// Each has the Life of its own reply.
func TestGetLifeOfEach(t *testing.T) {
	s := New()
	for i := range mostKept {
		put(t, s, get("h", path(i)), told(path(i), i+1), 100)
	}
	for now := 95; now < 125; now++ {
		for i := range mostKept {
			if age := now - 100; age >= 0 && age <= i {
				checkGet(t, s, get("h", path(i)), now, told(path(i), i+1), age)
			} else {
				checkNone(t, s, get("h", path(i)), now)
			}
		}
	}
}

// several has three that fit one request, put in this order at these times, with these Lives.
func several(t *testing.T, at, lives [3]int) (*Store, api.Request, []api.Reply) {
	t.Helper()
	s := New()
	names := []string{"x", "y", "z"}
	var replies []api.Reply
	for i, name := range names {
		// Each shares with the last request the one value alone that its own vary asks for, so that
		// it takes no place of those ahead.
		pairs := []string{"x", "other" + name, "y", "other" + name, "z", "other" + name}
		pairs[2*i+1] = "same"
		a := told(name, lives[i], "vary", name)
		put(t, s, get("h", "/a", pairs...), a, at[i])
		replies = append(replies, a)
	}
	checkLen(t, s, 3)
	return s, get("h", "/a", "x", "same", "y", "same", "z", "same"), replies
}

func TestGetLastOfSeveral(t *testing.T) {
	s, r, a := several(t, [3]int{10, 10, 10}, [3]int{9, 9, 9})
	checkGet(t, s, r, 10, a[2], 0)
	checkGet(t, s, r, 18, a[2], 8)
	checkNone(t, s, r, 19)
	checkNone(t, s, r, 9)
	// It is the calls that count, and not the times.
	s, r, a = several(t, [3]int{30, 20, 10}, [3]int{100, 100, 100})
	checkGet(t, s, r, 40, a[2], 30)
	checkGet(t, s, r, 10, a[2], 0)
	checkGet(t, s, r, 109, a[2], 99)
	checkGet(t, s, r, 110, a[1], 90)
	checkGet(t, s, r, 120, a[0], 90)
	checkNone(t, s, r, 130)
	// One that lives no more is passed over.
	s, r, a = several(t, [3]int{10, 10, 10}, [3]int{30, 10, 20})
	checkGet(t, s, r, 29, a[2], 19)
	checkGet(t, s, r, 30, a[0], 20)
	checkNone(t, s, r, 40)
	// And one that was put later than now.
	s, r, a = several(t, [3]int{10, 20, 30}, [3]int{100, 100, 100})
	checkNone(t, s, r, 9)
	checkGet(t, s, r, 10, a[0], 0)
	checkGet(t, s, r, 19, a[0], 9)
	checkGet(t, s, r, 20, a[1], 0)
	checkGet(t, s, r, 29, a[1], 9)
	checkGet(t, s, r, 30, a[2], 0)
	// Both.
	s, r, a = several(t, [3]int{10, 10, 30}, [3]int{100, 5, 5})
	checkGet(t, s, r, 14, a[1], 4)
	checkGet(t, s, r, 15, a[0], 5)
	checkGet(t, s, r, 34, a[2], 4)
	checkGet(t, s, r, 35, a[0], 25)
}

// What was put anew is the last one.
func TestGetLastOfThoseAnew(t *testing.T) {
	s, r, a := several(t, [3]int{10, 10, 10}, [3]int{50, 50, 50})
	anew := told("anew", 50, "vary", "x")
	put(t, s, get("h", "/a", "x", "same", "y", "none", "z", "none"), anew, 5)
	checkLen(t, s, 3)
	checkGet(t, s, r, 12, anew, 7)
	checkGet(t, s, r, 55, a[2], 45)
	put(t, s, get("h", "/a", "x", "none", "y", "none", "z", "same"), a[2], 70)
	checkGet(t, s, r, 80, a[2], 10)
	checkGet(t, s, r, 12, anew, 7)
}

// Get takes nothing away.
func TestGetAgain(t *testing.T) {
	s := full(t, mostKept)
	for range 3 {
		for i := range mostKept {
			checkGet(t, s, get("h", path(i)), 59, told(path(i), 50), 49)
			checkNone(t, s, get("h", path(i)), 60)
			checkNone(t, s, get("h", path(i)), 9)
		}
		checkLen(t, s, mostKept)
	}
	// And one that was got goes as if it was not.
	put(t, s, get("h", path(mostKept)), told("new", 50), 10)
	checkHas(t, s, mostKept+1, 0)
}

// A reply is told as it was, with all of its fields.
func TestGetTellsAll(t *testing.T) {
	for _, pairs := range [][]string{nil, {"a", "1"}, {"cache", "none"}, {"vary", "", "vary", "x"}, {"", "", "A", "\x00"}, {"age", "5", "age", "6"}} {
		for _, body := range []string{"", "tea", "\x00\xff", xs(9000)} {
			s, a := New(), told(body, 9, pairs...)
			put(t, s, get("h", "/a"), a, 0)
			checkGet(t, s, get("h", "/a"), 8, a, 8)
		}
	}
	s, a := New(), told("", 9)
	a.Fields = append(slices.Repeat(list("a", "1"), 1<<12), a.Fields...)
	put(t, s, get("h", "/a"), a, 0)
	checkGet(t, s, get("h", "/a"), 8, a, 8)
}
