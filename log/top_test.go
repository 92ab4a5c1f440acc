package log

import (
	"slices"
	"strconv"
	"testing"

	"tollgate/api"
)

// asked are entries of these paths, in this order.
func asked(paths ...string) (l []api.Entry) {
	for i, p := range paths {
		l = append(l, entry(i, 100+i%500, i, p))
	}
	return l
}

// pathsTo are n paths, by bytes.
func pathsTo(n int) (l []string) {
	for i := range n {
		l = append(l, "/"+strconv.Itoa(1000+i))
	}
	return l
}

func TestTop(t *testing.T) {
	l := asked("/c", "/a", "/b", "/c", "/b", "/c")
	checkTop(t, l, 1, "/c")
	checkTop(t, l, 2, "/c", "/b")
	checkTop(t, l, 3, "/c", "/b", "/a")
	checkTop(t, l, 4, "/c", "/b", "/a")
	checkTop(t, l, 100, "/c", "/b", "/a")
	checkTop(t, asked("/a"), 1, "/a")
	checkTop(t, asked("/a", "/a", "/a"), 100, "/a")
}

// It is the Path alone that counts.
func TestTopByPath(t *testing.T) {
	l := []api.Entry{
		{Time: 9, Code: 599, Bytes: mostTime, Took: mostTime, Method: "PUT", Path: "/a"},
		{Time: 0, Code: 100, Bytes: 0, Took: 0, Method: "x", Path: "/b"},
		{Time: mostTime, Code: 404, Bytes: 5, Took: 5, Method: "y", Path: "/b"},
		{Time: 3, Code: 200, Bytes: 1, Took: 1, Method: "GET", Path: "b"},
	}
	checkTop(t, l, 100, "/b", "/a", "b")
}

// Equal counts go by bytes, wherever they stand.
func TestTopEqual(t *testing.T) {
	sorted := []string{"!", "/", "/-", "/10", "/9", "/A", "/B", "/a", "/a/", "/aa", "/b", "A", "a", "~"}
	backward := slices.Clone(sorted)
	slices.Reverse(backward)
	for _, l := range [][]string{sorted, backward, slices.Concat(sorted[5:], sorted[:5])} {
		checkTop(t, asked(l...), 100, sorted...)
		checkTop(t, asked(slices.Concat(l, l, l)...), 100, sorted...)
		for n := range sorted {
			checkTop(t, asked(l...), n+1, sorted[:n+1]...)
			// One that stands there once more is the first.
			rest := slices.Delete(slices.Clone(sorted), n, n+1)
			checkTop(t, asked(append(slices.Clone(l), sorted[n])...), 100, append([]string{sorted[n]}, rest...)...)
			checkTop(t, asked(append([]string{sorted[n]}, l...)...), 1, sorted[n])
		}
	}
	checkTop(t, asked("/b", "/a", "/d", "/c", "/d", "/b"), 3, "/b", "/d", "/a")
}

func TestTopMany(t *testing.T) {
	for _, n := range []int{1, 2, 99, 100, 101, mostList} {
		paths := pathsTo(n)
		l := asked(paths...)
		slices.Reverse(l)
		for _, many := range []int{1, 2, 50, 99, 100} {
			checkTop(t, l, many, paths[:min(many, n)]...)
		}
	}
	for _, many := range []int{1, 2, 50, 99, 100} {
		checkTop(t, nil, many)
		checkTop(t, []api.Entry{}, many)
	}
}

func TestTopFull(t *testing.T) {
	checkTop(t, slices.Repeat(asked("/a"), mostList), 1, "/a")
	// The first path by bytes is the one that stands there least.
	checkTop(t, append(slices.Repeat(asked("/b"), mostList-1), asked("/a")...), 100, "/b", "/a")
	for _, n := range []int{mostList + 1, mostList + 2, 5000} {
		refuseTop(t, slices.Repeat(asked("/a"), n), 1, api.ErrFull)
		refuseTop(t, slices.Repeat(asked("/a"), n), 100, api.ErrFull)
	}
}

func TestTopWrong(t *testing.T) {
	for _, many := range noParts {
		refuseTop(t, nil, many, api.ErrRange)
		refuseTop(t, asked("/a", "/b"), many, api.ErrRange)
		refuseTop(t, slices.Repeat(asked("/a"), mostList+1), many, api.ErrRange)
		refuseTop(t, asked("/a", "", "/b"), many, api.ErrRange)
	}
	a := asked("/a")
	for _, f := range faults() {
		for _, many := range []int{1, 100} {
			refuseTop(t, []api.Entry{f.e}, many, f.told)
			refuseTop(t, append(slices.Repeat(a, 9), f.e), many, f.told)
			refuseTop(t, append([]api.Entry{f.e}, a...), many, f.told)
			refuseTop(t, append(slices.Repeat(a, mostList-1), f.e), many, f.told)
			refuseTop(t, append(slices.Repeat(a, mostList), f.e), many, api.ErrFull)
			refuseTop(t, append([]api.Entry{f.e}, slices.Repeat(a, mostList)...), many, api.ErrFull)
		}
		refuseTop(t, []api.Entry{f.e}, 0, api.ErrRange)
		refuseTop(t, []api.Entry{f.e}, 101, api.ErrRange)
	}
}

// What came out is the caller's, and each time another memory.
func TestTopIsNewMemory(t *testing.T) {
	l := asked("/b", "/a", "/b", "/c")
	first, _ := Top(l, 2)
	second, _ := Top(l, 2)
	whole := first[:cap(first)]
	for i := range whole {
		whole[i] = "spoilt"
	}
	if !slices.Equal(second, []string{"/b", "/a"}) {
		t.Errorf("the second is %s", short(second))
	}
	checkTop(t, l, 3, "/b", "/a", "/c")
}
