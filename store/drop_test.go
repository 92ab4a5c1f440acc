package store

import (
	"strconv"
	"testing"
)

// mixed has of the Path /a five, /b two and of /c one, of several Hosts, among each other.
func mixed(t *testing.T) *Store {
	t.Helper()
	s := New()
	for _, p := range [][3]string{{"h", "/a", ""}, {"h", "/b", ""}, {"k", "/a", "1"}, {"k", "/a", "2"}, {"h", "/c", ""}, {"", "/a", ""}, {"k", "/b", ""}, {"/b", "/a", ""}} {
		put(t, s, get(p[0], p[1], "x", p[2]), told(p[0]+p[1]+p[2], 50, "vary", "x"), 10)
	}
	checkLen(t, s, 8)
	return s
}

// checkMixed asks which Paths of mixed are there.
func checkMixed(t *testing.T, s *Store, a, b, c bool) {
	t.Helper()
	for _, p := range []struct {
		host, path, x string
		there         bool
	}{
		{"h", "/a", "", a}, {"k", "/a", "1", a}, {"k", "/a", "2", a}, {"", "/a", "", a}, {"/b", "/a", "", a},
		{"h", "/b", "", b}, {"k", "/b", "", b}, {"h", "/c", "", c},
	} {
		if r := get(p.host, p.path, "x", p.x); p.there {
			checkGet(t, s, r, 12, told(p.host+p.path+p.x, 50, "vary", "x"), 2)
		} else {
			checkNone(t, s, r, 12)
		}
	}
}

func TestDropNone(t *testing.T) {
	s := mixed(t)
	before := deep(s)
	for _, path := range []string{"", "/", "/d", "/A", "/a/", "/a ", "a", "h", "k", "/b/a", "h/a", "*", xs(1 << 16)} {
		checkDrop(t, New(), path, 0)
		checkDrop(t, s, path, 0)
		checkSame(t, s, before, "Drop")
	}
	checkMixed(t, s, true, true, true)
}

func TestDrop(t *testing.T) {
	s := mixed(t)
	checkDrop(t, s, "/a", 5)
	checkMixed(t, s, false, true, true)
	checkDrop(t, s, "/a", 0)
	checkDrop(t, s, "/c", 1)
	checkMixed(t, s, false, true, false)
	checkDrop(t, s, "/b", 2)
	checkMixed(t, s, false, false, false)
	checkDrop(t, s, "/b", 0)
	checkLen(t, s, 0)

	s = mixed(t)
	checkDrop(t, s, "/b", 2)
	checkMixed(t, s, true, false, true)
	checkDrop(t, s, "/a", 5)
	checkMixed(t, s, false, false, true)
}

// All that it has, and it can be filled anew.
func TestDropAll(t *testing.T) {
	for n := range mostKept + 1 {
		s := New()
		for range 2 {
			for i := range n {
				put(t, s, get(strconv.Itoa(i), "/a"), told("a", 50), 10)
			}
			checkLen(t, s, n)
			checkDrop(t, s, "/a", n)
			for i := range n {
				checkNone(t, s, get(strconv.Itoa(i), "/a"), 10)
			}
		}
	}
}

// Those that live no more, or were put later, are there all the same.
func TestDropWhateverTime(t *testing.T) {
	s := New()
	put(t, s, get("h", "/a"), told("a", 1), 0)
	put(t, s, get("k", "/a"), told("a", 1), mostTime)
	checkNone(t, s, get("h", "/a"), 5)
	checkNone(t, s, get("k", "/a"), 5)
	checkLen(t, s, 2)
	checkDrop(t, s, "/a", 2)
}

// What is left stays in its order: the one that was put first goes first, and the last one is told.
func TestDropKeepsOrder(t *testing.T) {
	s := full(t, mostKept)
	checkDrop(t, s, "/0", 1)
	checkDrop(t, s, "/2", 1)
	put(t, s, get("h", "/20"), told("/20", 50), 10)
	put(t, s, get("h", "/21"), told("/21", 50), 10)
	checkHas(t, s, mostKept+2, 0, 2)
	put(t, s, get("h", "/22"), told("/22", 50), 10)
	checkHas(t, s, mostKept+3, 0, 1, 2)
	put(t, s, get("h", "/23"), told("/23", 50), 10)
	checkHas(t, s, mostKept+4, 0, 1, 2, 3)

	s, r, a := several(t, [3]int{10, 10, 10}, [3]int{50, 50, 50})
	put(t, s, get("h", "/b"), told("b", 50), 10)
	checkDrop(t, s, "/b", 1)
	checkGet(t, s, r, 11, a[2], 1)
	checkDrop(t, s, "/a", 3)
	checkNone(t, s, r, 11)
}

// Each Store has its own.
func TestStoresApart(t *testing.T) {
	a, b := full(t, 3), New()
	checkLen(t, b, 0)
	checkNone(t, b, get("h", "/0"), 20)
	put(t, b, get("h", "/0"), told("of b", 50), 15)
	checkDrop(t, a, "/0", 1)
	checkGet(t, b, get("h", "/0"), 20, told("of b", 50), 5)
	checkDrop(t, b, "/1", 0)
	checkGet(t, a, get("h", "/1"), 20, told("/1", 50), 10)
}
