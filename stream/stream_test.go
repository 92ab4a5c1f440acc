package stream

import (
	"math"
	"testing"

	"tollgate/api"
	"tollgate/plain"
)

// states and kinds that are, and others on both sides of them.
var (
	states   = []int{api.Idle, api.Open, api.Ours, api.Theirs, api.Closed}
	noStates = []int{math.MinInt, -5, -1, 5, 6, 100, math.MaxInt}
	kinds    = []int{api.Data, api.Head, api.More, api.Stop, api.Set, api.Ping, api.Bye, api.Wide}
	noKinds  = []int{math.MinInt, -8, -1, 8, 9, 256, math.MaxInt}
)

// heard is what Hear answers.
type heard struct {
	next, code int
	all        bool
}

// fine is a frame that may come.
func fine(next int) heard { return heard{next, api.CodeNone, false} }

// bad is a frame that is wrong for all.
func bad(state int) heard { return heard{state, api.CodeProto, true} }

func checkHear(t *testing.T, state, kind int, end bool, want heard) {
	t.Helper()
	var got heard
	got.next, got.code, got.all = Hear(state, kind, end)
	if got != want {
		t.Errorf("Hear(%d, %d, %v): got %v, want %v", state, kind, end, got, want)
	}
}

func checkSay(t *testing.T, state, kind int, end bool, want int) {
	t.Helper()
	if next, err := Say(state, kind, end); next != want || err != nil {
		t.Errorf("Say(%d, %d, %v): got %d %v, want %d", state, kind, end, next, err, want)
	}
}

func refuseSay(t *testing.T, state, kind int, end bool) {
	t.Helper()
	if next, err := Say(state, kind, end); next != api.Idle || plain.Told(err) != api.ErrState {
		t.Errorf("Say(%d, %d, %v): got %d %v, want ErrState", state, kind, end, next, err)
	}
}

func TestHearPart(t *testing.T) {
	for _, c := range []struct {
		state, kind  int
		still, ended heard
	}{
		{api.Idle, api.Data, bad(api.Idle), bad(api.Idle)},
		{api.Idle, api.Head, fine(api.Open), fine(api.Ours)},
		{api.Open, api.Data, fine(api.Open), fine(api.Ours)},
		{api.Open, api.Head, fine(api.Open), fine(api.Ours)},
		{api.Theirs, api.Data, fine(api.Theirs), fine(api.Closed)},
		{api.Theirs, api.Head, fine(api.Theirs), fine(api.Closed)},
		{api.Ours, api.Data, heard{api.Closed, api.CodeClosed, false}, heard{api.Closed, api.CodeClosed, false}},
		{api.Ours, api.Head, heard{api.Closed, api.CodeClosed, false}, heard{api.Closed, api.CodeClosed, false}},
		{api.Closed, api.Data, heard{api.Closed, api.CodeClosed, true}, heard{api.Closed, api.CodeClosed, true}},
		{api.Closed, api.Head, heard{api.Closed, api.CodeClosed, true}, heard{api.Closed, api.CodeClosed, true}},
	} {
		checkHear(t, c.state, c.kind, false, c.still)
		checkHear(t, c.state, c.kind, true, c.ended)
	}
}

// Stop and Wide end nothing by their end.
func TestHearStopAndWide(t *testing.T) {
	for _, end := range []bool{false, true} {
		checkHear(t, api.Idle, api.Stop, end, bad(api.Idle))
		checkHear(t, api.Idle, api.Wide, end, bad(api.Idle))
		for _, state := range []int{api.Open, api.Ours, api.Theirs, api.Closed} {
			checkHear(t, state, api.Stop, end, fine(api.Closed))
			checkHear(t, state, api.Wide, end, fine(state))
		}
	}
}

func TestHearOtherKinds(t *testing.T) {
	others := append([]int{api.More, api.Set, api.Ping, api.Bye}, noKinds...)
	for _, end := range []bool{false, true} {
		for _, kind := range others {
			for _, state := range append(noStates, states...) {
				checkHear(t, state, kind, end, bad(state))
			}
		}
	}
}

func TestHearNoState(t *testing.T) {
	for _, end := range []bool{false, true} {
		for _, state := range noStates {
			for _, kind := range kinds {
				checkHear(t, state, kind, end, bad(state))
			}
		}
	}
}

func TestSayPart(t *testing.T) {
	for _, kind := range []int{api.Data, api.Head} {
		checkSay(t, api.Open, kind, false, api.Open)
		checkSay(t, api.Open, kind, true, api.Theirs)
		checkSay(t, api.Ours, kind, false, api.Ours)
		checkSay(t, api.Ours, kind, true, api.Closed)
		for _, state := range []int{api.Idle, api.Theirs, api.Closed} {
			refuseSay(t, state, kind, false)
			refuseSay(t, state, kind, true)
		}
	}
}

func TestSayStopAndWide(t *testing.T) {
	for _, end := range []bool{false, true} {
		refuseSay(t, api.Idle, api.Stop, end)
		for _, state := range []int{api.Open, api.Ours, api.Theirs, api.Closed} {
			checkSay(t, state, api.Stop, end, api.Closed)
		}
		checkSay(t, api.Open, api.Wide, end, api.Open)
		checkSay(t, api.Theirs, api.Wide, end, api.Theirs)
		for _, state := range []int{api.Idle, api.Ours, api.Closed} {
			refuseSay(t, state, api.Wide, end)
		}
	}
}

func TestSayOtherKinds(t *testing.T) {
	others := append([]int{api.More, api.Set, api.Ping, api.Bye}, noKinds...)
	for _, end := range []bool{false, true} {
		for _, kind := range others {
			for _, state := range append(noStates, states...) {
				refuseSay(t, state, kind, end)
			}
		}
	}
}

func TestSayNoState(t *testing.T) {
	for _, end := range []bool{false, true} {
		for _, state := range noStates {
			for _, kind := range kinds {
				refuseSay(t, state, kind, end)
			}
		}
	}
}

// What the one side says the other side hears: where both go on from there, their states mirror each other.
func TestSaidIsHeard(t *testing.T) {
	mirror := map[int]int{api.Open: api.Open, api.Ours: api.Theirs, api.Theirs: api.Ours, api.Closed: api.Closed}
	for _, end := range []bool{false, true} {
		for _, kind := range kinds {
			for _, state := range states {
				said, err := Say(state, kind, end)
				if err != nil {
					continue
				}
				checkHear(t, mirror[state], kind, end, fine(mirror[said]))
			}
		}
	}
}

func checkOpen(t *testing.T, s *Streams, id, code int, all bool) {
	t.Helper()
	if c, a := s.Open(id); c != code || a != all {
		t.Errorf("Open(%d): got %d %v, want %d %v", id, c, a, code, all)
	}
}

func checkState(t *testing.T, s *Streams, id, want int) {
	t.Helper()
	if got := s.State(id); got != want {
		t.Errorf("State(%d): got %d, want %d", id, got, want)
	}
}

func checkCounts(t *testing.T, s *Streams, many, last int) {
	t.Helper()
	if s.Many() != many || s.Last() != last {
		t.Errorf("got Many %d, Last %d, want %d, %d", s.Many(), s.Last(), many, last)
	}
}

// fill opens as many as may be at once, in Streams that have none.
func fill(t *testing.T, s *Streams) (last int) {
	t.Helper()
	for i := range api.MaxStreams {
		last = 2*i + 1
		checkOpen(t, s, last, api.CodeNone, false)
		checkCounts(t, s, i+1, last)
	}
	return last
}

func TestNoneAtFirst(t *testing.T) {
	s := New()
	checkCounts(t, s, 0, 0)
	for _, id := range []int{math.MinInt, -1, 0, 1, 2, 3, math.MaxInt} {
		checkState(t, s, id, api.Idle)
		s.Put(id, api.Open)
		checkState(t, s, id, api.Idle)
	}
	checkCounts(t, s, 0, 0)
}

func TestOpen(t *testing.T) {
	s := New()
	for _, id := range []int{1, 3, 7, 1001, api.MaxWord, math.MaxInt} {
		many := s.Many()
		checkState(t, s, id, api.Idle)
		checkOpen(t, s, id, api.CodeNone, false)
		checkState(t, s, id, api.Open)
		checkCounts(t, s, many+1, id)
	}
	for _, id := range []int{math.MaxInt, math.MaxInt - 1, math.MinInt, math.MinInt + 1} {
		checkOpen(t, s, id, api.CodeProto, true)
	}
	checkCounts(t, s, 6, math.MaxInt)
}

func TestOpenNumbersThatMayNotBe(t *testing.T) {
	s := New()
	for _, id := range []int{math.MinInt, math.MinInt + 1, -3, -2, -1, 0, 2, 4, math.MaxInt - 1} {
		checkOpen(t, s, id, api.CodeProto, true)
		checkState(t, s, id, api.Idle)
		checkCounts(t, s, 0, 0)
	}
	checkOpen(t, s, 5, api.CodeNone, false)
	for _, id := range []int{5, 4, 3, 2, 1, 0, -1, -5, -7, 6, 8} {
		checkOpen(t, s, id, api.CodeProto, true)
		checkCounts(t, s, 1, 5)
	}
	checkState(t, s, 5, api.Open)
	checkState(t, s, 3, api.Closed)
	checkState(t, s, 7, api.Idle)
	s.Put(5, api.Closed)
	checkOpen(t, s, 5, api.CodeProto, true)
	checkState(t, s, 5, api.Closed)
	checkOpen(t, s, 7, api.CodeNone, false)
	checkCounts(t, s, 1, 7)
}

func TestOpenOneMoreThanMayBe(t *testing.T) {
	s := New()
	last := fill(t, s)
	checkOpen(t, s, last+2, api.CodeRefused, false)
	checkState(t, s, last+2, api.Closed)
	checkCounts(t, s, api.MaxStreams, last+2)
	// It was seen: the same number, and those below it, are wrong from now on.
	checkOpen(t, s, last+2, api.CodeProto, true)
	checkOpen(t, s, last, api.CodeProto, true)
	// A number that may not be is told ahead of there being too many.
	checkOpen(t, s, last+3, api.CodeProto, true)
	checkCounts(t, s, api.MaxStreams, last+2)
	checkOpen(t, s, last+8, api.CodeRefused, false)
	checkState(t, s, last+6, api.Closed)
	checkState(t, s, last+8, api.Closed)
	checkState(t, s, last+10, api.Idle)
	checkCounts(t, s, api.MaxStreams, last+8)
}

func TestOpenBehindOneThatClosed(t *testing.T) {
	s := New()
	last := fill(t, s)
	// One that has half ended counts as before.
	for _, state := range []int{api.Ours, api.Theirs} {
		s.Put(9, state)
		last += 2
		checkOpen(t, s, last, api.CodeRefused, false)
	}
	s.Put(9, api.Closed)
	checkCounts(t, s, api.MaxStreams-1, last)
	last += 2
	checkOpen(t, s, last, api.CodeNone, false)
	checkState(t, s, last, api.Open)
	checkCounts(t, s, api.MaxStreams, last)
	last += 2
	checkOpen(t, s, last, api.CodeRefused, false)
	checkCounts(t, s, api.MaxStreams, last)
}

// Put has no bound: what it brings back counts, and with more than MaxStreams none is opened.
func TestPutBeyondMaxStreams(t *testing.T) {
	s := New()
	last := fill(t, s)
	checkOpen(t, s, last+4, api.CodeRefused, false)
	s.Put(last+2, api.Open)
	s.Put(last+4, api.Theirs)
	checkState(t, s, last+2, api.Open)
	checkState(t, s, last+4, api.Theirs)
	checkCounts(t, s, api.MaxStreams+2, last+4)
	checkOpen(t, s, last+6, api.CodeRefused, false)
	s.Put(1, api.Closed)
	s.Put(3, api.Closed)
	checkOpen(t, s, last+8, api.CodeRefused, false)
	s.Put(5, api.Closed)
	checkOpen(t, s, last+10, api.CodeNone, false)
	checkCounts(t, s, api.MaxStreams, last+10)
}

func TestStateOfAll(t *testing.T) {
	s := New()
	s.Open(3)
	s.Open(9)
	for id, want := range map[int]int{
		math.MinInt: api.Idle, math.MinInt + 1: api.Idle, -9: api.Idle, -3: api.Idle, -2: api.Idle, -1: api.Idle, 0: api.Idle,
		1: api.Closed, 2: api.Idle, 3: api.Open, 4: api.Idle, 5: api.Closed, 6: api.Idle, 7: api.Closed, 8: api.Idle, 9: api.Open,
		10: api.Idle, 11: api.Idle, math.MaxInt: api.Idle,
	} {
		checkState(t, s, id, want)
	}
	checkCounts(t, s, 2, 9)
}

func TestPut(t *testing.T) {
	for _, id := range []int{1, 3, 5} { // passed over, opened, opened last
		s := New()
		s.Open(3)
		s.Open(5)
		// Behind each state each other one, and the same again.
		for _, from := range states[1:] {
			for _, to := range states[1:] {
				s.Put(id, from)
				s.Put(id, to)
				checkState(t, s, id, to)
				many := 0
				for _, other := range []int{1, 3, 5} {
					if s.State(other) != api.Closed {
						many++
					}
				}
				checkCounts(t, s, many, 5)
			}
		}
	}
}

func TestPutCounts(t *testing.T) {
	s := New()
	s.Open(3)
	for _, c := range []struct{ id, state, many int }{
		{3, api.Ours, 1}, {3, api.Theirs, 1}, {3, api.Closed, 0}, {3, api.Closed, 0}, {3, api.Open, 1},
		{1, api.Closed, 1}, {1, api.Ours, 2}, {1, api.Open, 2}, {3, api.Closed, 1}, {1, api.Closed, 0},
	} {
		s.Put(c.id, c.state)
		checkState(t, s, c.id, c.state)
		checkCounts(t, s, c.many, 3)
	}
}

func TestPutNoState(t *testing.T) {
	s := New()
	s.Open(3)
	s.Open(5)
	s.Put(5, api.Theirs)
	for _, state := range append([]int{api.Idle}, noStates...) {
		for _, id := range []int{1, 3, 5, 7} {
			s.Put(id, state)
		}
		checkState(t, s, 1, api.Closed)
		checkState(t, s, 3, api.Open)
		checkState(t, s, 5, api.Theirs)
		checkState(t, s, 7, api.Idle)
		checkCounts(t, s, 2, 5)
	}
}

// What is put for a stream that is Idle is not there when that stream is seen.
func TestPutIdle(t *testing.T) {
	s := New()
	s.Open(3)
	for _, id := range []int{math.MinInt, -3, -1, 0, 2, 4, 5, 7, math.MaxInt} {
		for _, state := range states {
			s.Put(id, state)
			checkState(t, s, id, api.Idle)
			checkCounts(t, s, 1, 3)
		}
	}
	s.Open(9)
	checkState(t, s, 5, api.Closed)
	checkState(t, s, 7, api.Closed)
	checkState(t, s, 4, api.Idle)
	checkCounts(t, s, 2, 9)
}

func TestTwoAreApart(t *testing.T) {
	a, b := New(), New()
	a.Open(5)
	checkCounts(t, b, 0, 0)
	b.Open(3)
	b.Put(3, api.Ours)
	checkState(t, a, 3, api.Closed)
	checkState(t, b, 5, api.Idle)
	checkCounts(t, a, 1, 5)
	checkCounts(t, b, 1, 3)
}

// model keeps a state for every number up to the last that was seen, and counts anew each time.
type model struct{ seen []int }

func (m *model) open(id int) (code int, all bool) {
	if id < 1 || id&1 == 0 || id < len(m.seen) {
		return api.CodeProto, true
	}
	many := m.many()
	for len(m.seen) <= id {
		m.seen = append(m.seen, api.Closed)
	}
	if many >= 16 {
		return api.CodeRefused, false
	}
	m.seen[id] = api.Open
	return 0, false
}

func (m *model) state(id int) int {
	if id < 1 || id >= len(m.seen) || id&1 == 0 {
		return api.Idle
	}
	return m.seen[id]
}

func (m *model) put(id, state int) {
	if m.state(id) != api.Idle && state >= 1 && state <= 4 {
		m.seen[id] = state
	}
}

func (m *model) many() (n int) {
	for id := 1; id < len(m.seen); id += 2 {
		if m.seen[id] != api.Closed {
			n++
		}
	}
	return n
}

func TestManySteps(t *testing.T) {
	seed := uint64(6)
	next := func(n int) int {
		seed = seed*6364136223846793005 + 1442695040888963407
		return int(seed>>33) % n
	}
	for round := range 60 {
		s, m := New(), &model{}
		for range 300 {
			id := s.Last() - 40 + next(45)
			if next(2) == 0 {
				code, all := m.open(id)
				checkOpen(t, s, id, code, all)
			} else {
				state := next(7) - 1
				s.Put(id, state)
				m.put(id, state)
			}
			checkCounts(t, s, m.many(), max(0, len(m.seen)-1))
			for i := -2; i < len(m.seen)+3; i++ {
				checkState(t, s, i, m.state(i))
			}
		}
		if t.Failed() {
			t.Fatalf("round %d", round)
		}
	}
}

// What has closed is not kept.
func TestClosedAreGone(t *testing.T) {
	s := New()
	for id := 1; id < 20_000; id += 2 {
		checkOpen(t, s, id, api.CodeNone, false)
		s.Put(id, api.Ours)
		s.Put(id, api.Closed)
	}
	checkCounts(t, s, 0, 19_999)
	if len(s.live) != 0 {
		t.Errorf("%d are kept", len(s.live))
	}
}
