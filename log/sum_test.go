package log

import (
	"math"
	"slices"
	"testing"

	"tollgate/api"
)

func TestSum(t *testing.T) {
	l := []api.Entry{entry(10, 200, 1, "/a"), entry(3, 500, 20, "/b"), entry(19, 599, 300, "/a"), entry(20, 500, 4000, "/c"), entry(9, 404, 50000, "/a"), entry(15, 100, 0, "/")}
	checkSum(t, l, 10, 20, 3, 301, 1)
	checkSum(t, l, 0, 20, 5, 50321, 2)
	checkSum(t, l, 0, 21, 6, 54321, 3)
	checkSum(t, l, 3, 4, 1, 20, 1)
	checkSum(t, l, 4, 9, 0, 0, 0)
	checkSum(t, l, 20, mostTime, 1, 4000, 1)
	checkSum(t, l, 21, mostTime, 0, 0, 0)
}

// From is in, to is out.
func TestSumEdges(t *testing.T) {
	for _, at := range []int{0, 1, 5, mostTime - 1, mostTime} {
		l := []api.Entry{entry(at, 500, 7, "/a")}
		checkSum(t, l, at, at+1, 1, 7, 1)
		checkSum(t, l, at-1, at+1, 1, 7, 1)
		checkSum(t, l, at, at+2, 1, 7, 1)
		checkSum(t, l, at-1, at, 0, 0, 0)
		checkSum(t, l, at+1, at+2, 0, 0, 0)
		checkSum(t, l, at, at, 0, 0, 0)
		checkSum(t, l, at+1, at, 0, 0, 0)
		checkSum(t, l, at+1, at-1, 0, 0, 0)
		checkSum(t, l, math.MinInt, math.MaxInt, 1, 7, 1)
		checkSum(t, l, math.MinInt, at, 0, 0, 0)
		checkSum(t, l, math.MinInt, at+1, 1, 7, 1)
		checkSum(t, l, at, math.MaxInt, 1, 7, 1)
		checkSum(t, l, at+1, math.MaxInt, 0, 0, 0)
		checkSum(t, l, math.MaxInt, math.MinInt, 0, 0, 0)
		checkSum(t, l, math.MinInt, math.MinInt, 0, 0, 0)
		checkSum(t, l, math.MaxInt, math.MaxInt, 0, 0, 0)
	}
}

func TestSumCodes(t *testing.T) {
	for _, c := range []struct{ code, bad int }{{100, 0}, {200, 0}, {400, 0}, {498, 0}, {499, 0}, {500, 1}, {501, 1}, {599, 1}} {
		checkSum(t, []api.Entry{entry(5, c.code, 7, "/a")}, 0, 10, 1, 7, c.bad)
		checkSum(t, []api.Entry{entry(5, c.code, 7, "/a"), entry(6, 500, 1, "/a"), entry(6, 499, 2, "/a")}, 0, 10, 3, 10, c.bad+1)
		// Outside none is counted.
		checkSum(t, []api.Entry{entry(5, c.code, 7, "/a")}, 6, 10, 0, 0, 0)
	}
}

func TestSumNone(t *testing.T) {
	for _, l := range [][]api.Entry{nil, {}} {
		for _, from := range []int{math.MinInt, -1, 0, 5, math.MaxInt} {
			for _, to := range []int{math.MinInt, -1, 0, 5, math.MaxInt} {
				checkSum(t, l, from, to, 0, 0, 0)
			}
		}
	}
}

func TestSumFull(t *testing.T) {
	e := entry(5, 500, mostTime, "/a")
	for _, n := range []int{1, 999, mostList} {
		l := slices.Repeat([]api.Entry{e}, n)
		checkSum(t, l, 0, 10, n, n*mostTime, n)
		checkSum(t, l, 6, 10, 0, 0, 0)
	}
	for _, n := range []int{mostList + 1, mostList + 2, 5000} {
		l := slices.Repeat([]api.Entry{e}, n)
		refuseSum(t, l, 0, 10, api.ErrFull)
		// Though none of them lies between.
		refuseSum(t, l, 6, 10, api.ErrFull)
		refuseSum(t, l, 10, 0, api.ErrFull)
	}
}

func TestSumWrong(t *testing.T) {
	a, b := entry(1, 200, 1, "/a"), entry(7, 200, 1, "/a")
	for _, f := range faults() {
		// Around all Times, around the one that most of these have, and aside.
		for _, c := range [][2]int{{math.MinInt, math.MaxInt}, {5, 6}, {6, 9}, {0, 5}, {9, 0}, {5, 5}} {
			refuseSum(t, []api.Entry{f.e}, c[0], c[1], f.told)
			refuseSum(t, []api.Entry{a, f.e}, c[0], c[1], f.told)
			refuseSum(t, []api.Entry{a, f.e, b}, c[0], c[1], f.told)
			refuseSum(t, append(slices.Repeat([]api.Entry{a}, mostList-1), f.e), c[0], c[1], f.told)
			refuseSum(t, append(slices.Repeat([]api.Entry{a}, mostList), f.e), c[0], c[1], api.ErrFull)
			refuseSum(t, append([]api.Entry{f.e}, slices.Repeat([]api.Entry{a}, mostList)...), c[0], c[1], api.ErrFull)
		}
	}
}

// Of several that are wrong the first one's fault is told, by either call that takes entries.
func TestFirstFault(t *testing.T) {
	for _, f := range faults() {
		for _, other := range faults() {
			l := []api.Entry{entry(5, 200, 1, "/a"), f.e, other.e}
			refuseSum(t, l, 0, 10, f.told)
			refuseTop(t, l, 10, f.told)
		}
	}
}

// What lies behind a list's length is neither read nor written.
func TestBehindTheList(t *testing.T) {
	behind := entry(5, 500, 7, "/behind")
	for _, e := range []api.Entry{behind, {}} {
		l := roomy([]api.Entry{entry(5, 200, 1, "/b"), entry(6, 200, 1, "/a")}, e)
		whole := slices.Clone(l[:cap(l)])
		checkSum(t, l, 0, 10, 2, 2, 0)
		checkTop(t, l, 10, "/a", "/b")
		checkSame(t, l[:cap(l)], whole)
		full := roomy(slices.Repeat([]api.Entry{behind}, mostList), e)
		checkSum(t, full, 0, 10, mostList, 7*mostList, mostList)
		checkTop(t, full, 1, "/behind")
	}
	l := roomy([]int{3, 1, 2}, 0)
	whole := slices.Clone(l[:cap(l)])
	checkRank(t, l, 1, 1)
	checkRank(t, l, 100, 3)
	checkSame(t, l[:cap(l)], whole)
	refuseRank(t, roomy([]int{}, 5), 50, api.ErrNone)
	checkRank(t, roomy(make([]int, mostList), 5), 100, 0)
}
