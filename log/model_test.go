package log

import (
	"fmt"
	"slices"
	"strings"
	"testing"

	"tollgate/api"
	"tollgate/plain"
)

// roller gives numbers that look as if they were rolled, the same in each run.
func roller(seed uint64) func(n int) int {
	return func(n int) int {
		seed = seed*6364136223846793005 + 1442695040888963407
		return int(seed>>33) % n
	}
}

// modelText tells whether a text is of the four numbers, a Token and a word, byte by byte.
func modelText(s string) bool {
	parts := []string{""}
	for _, c := range []byte(s) {
		if c == ' ' {
			parts = append(parts, "")
		} else {
			parts[len(parts)-1] += one(int(c))
		}
	}
	if len(parts) != 6 {
		return false
	}
	for i, p := range parts[:4] {
		least, most := 0, mostTime
		if i == 1 {
			least, most = 100, 599
		}
		if !modelNumber(p, least, most) {
			return false
		}
	}
	notToken := func(c rune) bool { return !strings.ContainsRune(tokenBytes, c) }
	notPath := func(c rune) bool { return c < 33 || c > 126 }
	return parts[4] != "" && len(parts[4]) <= mostText && !strings.ContainsFunc(parts[4], notToken) &&
		parts[5] != "" && len(parts[5]) <= mostText && !strings.ContainsFunc(parts[5], notPath)
}

func modelNumber(s string, least, most int) bool {
	n := 0
	for i, c := range []byte(s) {
		if c < '0' || c > '9' || i == 1 && s[0] == '0' || n > most {
			return false
		}
		n = n*10 + int(c-'0')
	}
	return s != "" && n >= least && n <= most
}

// modelTop takes the first of the paths that stand there most often, till there are enough.
func modelTop(l []api.Entry, many int) (paths []string) {
	for len(paths) < many {
		best, times := "", 0
		for _, e := range l {
			n := 0
			for _, other := range l {
				if other.Path == e.Path {
					n++
				}
			}
			if !slices.Contains(paths, e.Path) && (n > times || n == times && e.Path < best) {
				best, times = e.Path, n
			}
		}
		if times == 0 {
			break
		}
		paths = append(paths, best)
	}
	return paths
}

func rolledEntry(roll func(n int) int) api.Entry {
	return api.Entry{
		Time:   []int{roll(30), roll(30), roll(mostTime + 1)}[roll(3)],
		Code:   100 + roll(500),
		Bytes:  []int{roll(50), roll(mostTime + 1)}[roll(2)],
		Took:   []int{roll(9), roll(mostTime + 1)}[roll(2)],
		Method: []string{"GET", "POST", "x-1", "_"}[roll(4)],
		Path:   []string{"/", "/a", "/b", "/a/b", "/B", "/aa", "x", "/a?b=1"}[roll(8)],
	}
}

// What is written is read back; with some bytes changed it is an entry where the model says so,
// and that one is written as it was read.
func TestManyTexts(t *testing.T) {
	roll := roller(16)
	told := map[bool]int{}
	for range 50_000 {
		e := rolledEntry(roll)
		text := fmt.Sprint(e.Time, " ", e.Code, " ", e.Bytes, " ", e.Took, " ", e.Method, " ", e.Path)
		checkBoth(t, e, text)
		b := []byte(text)
		for range 1 + roll(3) {
			at, c := roll(len(b)), " 0159+-/aG\t\xff"[roll(12)]
			switch roll(3) {
			case 0:
				b[at] = c
			case 1:
				b = slices.Insert(b, at, c)
			case 2:
				b = slices.Delete(b, at, at+1)
			}
		}
		told[checkText(t, string(b))]++
		if t.Failed() {
			t.FailNow()
		}
	}
	if told[true] < 1000 || told[false] < 1000 {
		t.Errorf("texts that are entries or not: %v", told)
	}
}

// checkText asks that a text is taken where the model takes it, and tells whether it was.
func checkText(t *testing.T, s string) bool {
	t.Helper()
	if !modelText(s) {
		refuseParse(t, s)
		return false
	}
	e, err := Parse(s)
	if err != nil {
		t.Errorf("Parse of %s: %v", short(s), err)
		return false
	}
	checkBoth(t, e, s)
	return true
}

func TestManyLists(t *testing.T) {
	roll := roller(61)
	for range 3000 {
		var l []api.Entry
		var numbers []int
		for range roll(25) {
			e := rolledEntry(roll)
			l, numbers = append(l, e), append(numbers, e.Took-e.Bytes)
		}
		from, to := roll(40)-5, roll(40)-5
		many, bytes, bad := 0, 0, 0
		for at := from; at < to; at++ {
			for _, e := range l {
				if e.Time == at {
					many, bytes, bad = many+1, bytes+e.Bytes, bad+e.Code/500
				}
			}
		}
		checkSum(t, l, from, to, many, bytes, bad)
		part := 1 + roll(100)
		checkTop(t, l, 1+part%9, modelTop(l, 1+part%9)...)
		checkModelRank(t, numbers, part)
		if t.Failed() {
			t.FailNow()
		}
	}
}

// checkModelRank asks that it is the least of the numbers that has so many hundredths at most as great.
func checkModelRank(t *testing.T, l []int, part int) {
	t.Helper()
	if len(l) == 0 {
		refuseRank(t, l, part, api.ErrNone)
		return
	}
	want, found := 0, false
	for _, n := range l {
		upTo := 0
		for _, other := range l {
			if other <= n {
				upTo++
			}
		}
		if upTo*100 >= part*len(l) && (!found || n < want) {
			want, found = n, true
		}
	}
	checkRank(t, l, part, want)
}

// The same arguments have the same answers, whatever was asked between.
func TestSameAnswers(t *testing.T) {
	roll := roller(116)
	var l []api.Entry
	for range 300 {
		l = append(l, rolledEntry(roll))
	}
	first, err := Top(l, 5)
	for range 50 {
		_, _ = Top(l[roll(300):], 1+roll(9))
		again, e := Top(l, 5)
		if !slices.Equal(again, first) || plain.Told(e) != plain.Told(err) {
			t.Errorf("Top: got %s %v, ahead %s %v", short(again), e, short(first), err)
		}
	}
}
