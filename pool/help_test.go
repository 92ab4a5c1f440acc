package pool

import (
	"maps"
	"math"
	"reflect"
	"slices"
	"strings"
	"testing"

	"tollgate/api"
	"tollgate/plain"
)

const (
	mostMany = 8
	mostTime = 1_000_000
	mostText = 400 // bytes of a place
)

const tokenBytes = "abcdefghijklmnopqrstuvwxyzABCDEFGHIJKLMNOPQRSTUVWXYZ0123456789-_"

// Numbers that many may not be, and times that may not be.
var (
	noManys = []int{0, -1, -2, -mostMany, math.MinInt32, math.MinInt + 1, math.MinInt, mostMany + 1, mostMany + 2, 2 * mostMany, math.MaxInt32, math.MaxUint32 + 2, math.MaxInt - 1, math.MaxInt}
	noTimes = []int{-1, -2, -mostTime, math.MinInt32, math.MinInt + 1, math.MinInt, mostTime + 1, mostTime + 2, 2 * mostTime, math.MaxInt32, math.MaxUint32 + 2, math.MaxInt - 1, math.MaxInt}
)

// Texts that are no places.
var noPlaces = []string{"", " ", "a b", " a", "a ", "a\r\n", "a.b", "a:80", "/a", "a\x00", "ä", "\x7f", "\xff", xs(mostText + 1), xs(2 * mostText)}

func xs(n int) string { return strings.Repeat("x", n) }

// made gives a Pool.
func made(t *testing.T, many int) *Pool {
	t.Helper()
	p, err := New(many)
	if p == nil || err != nil {
		t.Fatalf("New(%d): got %v %v", many, p, err)
	}
	return p
}

// with gives a Pool of many that has new ones to these places, ids 1, 2, 3, .., all Busy.
func with(t *testing.T, many int, places ...string) *Pool {
	t.Helper()
	p := made(t, many)
	for i, to := range places {
		checkNew(t, p, to, i+1)
	}
	return p
}

// deep copy of a Pool.
func deep(p *Pool) Pool {
	q := *p
	q.busy, q.idle = maps.Clone(p.busy), maps.Clone(p.idle)
	return q
}

// checkSame asks that what was done has changed nothing.
func checkSame(t *testing.T, p *Pool, before Pool, what string) {
	t.Helper()
	if !reflect.DeepEqual(*p, before) {
		t.Errorf("%s has changed it: %v, before %v", what, *p, before)
	}
}

func checkTake(t *testing.T, p *Pool, to string, want int, fresh bool, told api.Errno) {
	t.Helper()
	before := deep(p)
	id, got, err := p.Take(to)
	if id != want || got != fresh || plain.Told(err) != told {
		t.Errorf("Take(%.9q): got %d %v %v, want %d %v %v", to, id, got, err, want, fresh, told)
	}
	if err != nil {
		checkSame(t, p, before, "Take with an error")
	}
}

// checkNew asks for one that was not there.
func checkNew(t *testing.T, p *Pool, to string, want int) {
	t.Helper()
	checkTake(t, p, to, want, true, api.OK)
}

// checkAgain asks for one that was Idle.
func checkAgain(t *testing.T, p *Pool, to string, want int) {
	t.Helper()
	checkTake(t, p, to, want, false, api.OK)
}

// checkNoTake asks for an error.
func checkNoTake(t *testing.T, p *Pool, to string, told api.Errno) {
	t.Helper()
	checkTake(t, p, to, 0, false, told)
}

// checkGood brings these back, one behind the other.
func checkGood(t *testing.T, p *Pool, ids ...int) {
	t.Helper()
	for _, id := range ids {
		if err := p.Back(id, true); err != nil {
			t.Errorf("Back(%d, true): got %v", id, err)
		}
	}
}

// checkBad brings these back, that are of no use any more.
func checkBad(t *testing.T, p *Pool, ids ...int) {
	t.Helper()
	for _, id := range ids {
		if err := p.Back(id, false); err != nil {
			t.Errorf("Back(%d, false): got %v", id, err)
		}
	}
}

// checkNoBack asks that of these none is Busy.
func checkNoBack(t *testing.T, p *Pool, ids ...int) {
	t.Helper()
	for _, id := range ids {
		for _, good := range []bool{true, false} {
			before := deep(p)
			if err := p.Back(id, good); plain.Told(err) != api.ErrNone {
				t.Errorf("Back(%d, %v): got %v, want ErrNone", id, good, err)
			}
			checkSame(t, p, before, "Back with an error")
		}
	}
}

// checkTick asks which go.
func checkTick(t *testing.T, p *Pool, now, old int, want ...int) {
	t.Helper()
	got, err := p.Tick(now, old)
	if !slices.Equal(got, want) || err != nil {
		t.Errorf("Tick(%d, %d): got %v %v, want %v", now, old, got, err, want)
	}
}

// checkNoTick asks for an error.
func checkNoTick(t *testing.T, p *Pool, now, old int, told api.Errno) {
	t.Helper()
	before := deep(p)
	if got, err := p.Tick(now, old); len(got) > 0 || plain.Told(err) != told {
		t.Errorf("Tick(%d, %d): got %v %v, want %v", now, old, got, err, told)
	}
	checkSame(t, p, before, "Tick with an error")
}

// checkIdle asks twice, as asking changes nothing.
func checkIdle(t *testing.T, p *Pool, to string, want int) {
	t.Helper()
	before := deep(p)
	for range 2 {
		if got := p.Idle(to); got != want {
			t.Errorf("Idle(%.9q): got %d, want %d", to, got, want)
		}
	}
	checkSame(t, p, before, "Idle")
}

// checkCounts asks how many are Idle to the places a, b and c, and how many are Busy.
func checkCounts(t *testing.T, p *Pool, a, b, c, busy int) {
	t.Helper()
	checkIdle(t, p, "a", a)
	checkIdle(t, p, "b", b)
	checkIdle(t, p, "c", c)
	before := deep(p)
	for range 2 {
		if got := p.Busy(); got != busy {
			t.Errorf("Busy: got %d, want %d", got, busy)
		}
	}
	checkSame(t, p, before, "Busy")
}
