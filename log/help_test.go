package log

import (
	"fmt"
	"math"
	"slices"
	"strconv"
	"strings"
	"testing"

	"tollgate/api"
	"tollgate/plain"
)

const (
	mostTime = 1_000_000
	mostList = 1000
	mostText = 400 // bytes of a Method or a Path
)

const tokenBytes = "abcdefghijklmnopqrstuvwxyzABCDEFGHIJKLMNOPQRSTUVWXYZ0123456789-_"

// Numbers that Time, Bytes and Took may not be, and some that they may.
var (
	noCounts = []int{-1, -2, -mostTime, math.MinInt32, math.MinInt + 1, math.MinInt, mostTime + 1, mostTime + 2, 2 * mostTime, math.MaxInt32, math.MaxUint32 + 2, math.MaxInt - 1, math.MaxInt}
	counts   = []int{0, 1, 9, 10, 500, 99_999, 100_000, mostTime - 1, mostTime}
)

// Numbers that Code may not be, and some that it may.
var (
	noCodes = []int{-200, -1, 0, 1, 20, 98, 99, 600, 601, 999, 1000, 2000, 200 + 1<<32, math.MinInt, math.MaxInt}
	codes   = []int{100, 101, 199, 200, 404, 499, 500, 501, 598, 599}
)

// Texts that Method may not be, and some that Path may not be.
var (
	noMethods = []string{"", " ", "G T", " GET", "GET ", "GET\n", "G.T", "G/T", "G\x00T", "GÄT", "\x7f", "\xff", xs(mostText + 1)}
	noPaths   = []string{"", " ", "  ", "/a b", " /a", "/a ", "/a\n", "/a\r\n", "\t", "/\x00", "/\x1f", "/\x7f", "/ä", "\x80", "\xff", xs(mostText + 1), "/" + xs(mostText)}
)

// entry that nothing is wrong with.
func entry(time, code, bytes int, path string) api.Entry {
	return api.Entry{Time: time, Code: code, Bytes: bytes, Took: 3, Method: "GET", Path: path}
}

// fault is an entry with something wrong, and what is told of it.
type fault struct {
	e    api.Entry
	told api.Errno
}

// faults have one thing wrong each, but for the last ones, that have several.
func faults() (l []fault) {
	add := func(told api.Errno, change func(e *api.Entry)) {
		e := entry(5, 200, 7, "/a")
		change(&e)
		l = append(l, fault{e, told})
	}
	for _, n := range noCounts {
		add(api.ErrRange, func(e *api.Entry) { e.Time = n })
		add(api.ErrRange, func(e *api.Entry) { e.Bytes = n })
		add(api.ErrRange, func(e *api.Entry) { e.Took = n })
	}
	for _, n := range noCodes {
		add(api.ErrRange, func(e *api.Entry) { e.Code = n })
	}
	for _, s := range noMethods {
		add(api.ErrSyntax, func(e *api.Entry) { e.Method = s })
	}
	for _, s := range noPaths {
		add(api.ErrSyntax, func(e *api.Entry) { e.Path = s })
	}
	add(api.ErrRange, func(e *api.Entry) { e.Time, e.Method = -1, "" })
	add(api.ErrRange, func(e *api.Entry) { e.Bytes, e.Method = mostTime+1, "G T" })
	add(api.ErrRange, func(e *api.Entry) { e.Took, e.Path = -1, "" })
	add(api.ErrRange, func(e *api.Entry) { e.Code, e.Path = 600, "/a b" })
	add(api.ErrRange, func(e *api.Entry) { *e = api.Entry{} })
	add(api.ErrSyntax, func(e *api.Entry) { e.Method, e.Path = "", "" })
	return l
}

// one byte as a text.
func one(c int) string { return string([]byte{byte(c)}) }

// xs is a text of n letters.
func xs(n int) string { return strings.Repeat("x", n) }

func short(v any) string {
	s := fmt.Sprintf("%q", v)
	if len(s) > 200 {
		return s[:200] + " .. (" + strconv.Itoa(len(s)) + ")"
	}
	return s
}

// checkBoth asks that an entry is written so, and read back as it was.
func checkBoth(t *testing.T, e api.Entry, want string) {
	t.Helper()
	if got, err := Print(e); got != want || err != nil {
		t.Errorf("Print of %s: got %s %v, want %s", short(e), short(got), err, short(want))
	}
	if got, err := Parse(want); got != e || err != nil {
		t.Errorf("Parse of %s: got %s %v, want %s", short(want), short(got), err, short(e))
	}
}

func refusePrint(t *testing.T, e api.Entry, told api.Errno) {
	t.Helper()
	if got, err := Print(e); got != "" || plain.Told(err) != told {
		t.Errorf("Print of %s: got %s %v, want %v", short(e), short(got), err, told)
	}
}

func refuseParse(t *testing.T, s string) {
	t.Helper()
	if got, err := Parse(s); got != (api.Entry{}) || plain.Told(err) != api.ErrSyntax {
		t.Errorf("Parse of %s: got %s %v, want ErrSyntax", short(s), short(got), err)
	}
}

func checkSum(t *testing.T, l []api.Entry, from, to, many, bytes, bad int) {
	t.Helper()
	before := slices.Clone(l)
	if a, b, c, err := Sum(l, from, to); a != many || b != bytes || c != bad || err != nil {
		t.Errorf("Sum of %s from %d to %d: got %d %d %d %v, want %d %d %d", short(l), from, to, a, b, c, err, many, bytes, bad)
	}
	checkSame(t, l, before)
}

func refuseSum(t *testing.T, l []api.Entry, from, to int, told api.Errno) {
	t.Helper()
	before := slices.Clone(l)
	if a, b, c, err := Sum(l, from, to); a != 0 || b != 0 || c != 0 || plain.Told(err) != told {
		t.Errorf("Sum of %s from %d to %d: got %d %d %d %v, want %v", short(l), from, to, a, b, c, err, told)
	}
	checkSame(t, l, before)
}

func checkRank(t *testing.T, l []int, part, want int) {
	t.Helper()
	before := slices.Clone(l)
	if got, err := Rank(l, part); got != want || err != nil {
		t.Errorf("Rank of %d in %s: got %d %v, want %d", part, short(l), got, err, want)
	}
	checkSame(t, l, before)
}

func refuseRank(t *testing.T, l []int, part int, told api.Errno) {
	t.Helper()
	before := slices.Clone(l)
	if got, err := Rank(l, part); got != 0 || plain.Told(err) != told {
		t.Errorf("Rank of %d in %s: got %d %v, want %v", part, short(l), got, err, told)
	}
	checkSame(t, l, before)
}

func checkTop(t *testing.T, l []api.Entry, many int, want ...string) {
	t.Helper()
	before := slices.Clone(l)
	if got, err := Top(l, many); !slices.Equal(got, want) || err != nil {
		t.Errorf("Top %d of %s: got %s %v, want %s", many, short(l), short(got), err, short(want))
	}
	checkSame(t, l, before)
}

func refuseTop(t *testing.T, l []api.Entry, many int, told api.Errno) {
	t.Helper()
	before := slices.Clone(l)
	if got, err := Top(l, many); len(got) != 0 || plain.Told(err) != told {
		t.Errorf("Top %d of %s: got %s %v, want %v", many, short(l), short(got), err, told)
	}
	checkSame(t, l, before)
}

// checkSame asks that what was handed in is as it was.
func checkSame[T comparable](t *testing.T, l, before []T) {
	t.Helper()
	if !slices.Equal(l, before) {
		t.Errorf("what was given in is %s, and was %s", short(l), short(before))
	}
}

// roomy list whose memory goes on behind its length, with something else there.
func roomy[T any](l []T, behind T) []T {
	r := append(make([]T, 0, len(l)+9), l...)
	for i := len(l); i < cap(r); i++ {
		r[:cap(r)][i] = behind
	}
	return r
}
