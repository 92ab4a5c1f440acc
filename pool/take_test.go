package pool

import (
	"strconv"
	"testing"

	"tollgate/api"
	"tollgate/plain"
)

func TestNew(t *testing.T) {
	for many := 1; many <= mostMany; many++ {
		p := made(t, many)
		checkCounts(t, p, 0, 0, 0, 0)
		checkIdle(t, p, "", 0)
		checkNoBack(t, p, 0, 1, 2, many, mostMany)
		checkTick(t, p, 0, 0)
		checkTick(t, p, mostTime, 0)
		checkCounts(t, p, 0, 0, 0, 0)
	}
}

func TestNewRange(t *testing.T) {
	for _, many := range noManys {
		if p, err := New(many); p != nil || plain.Told(err) != api.ErrRange {
			t.Errorf("New(%d): got %v %v, want ErrRange", many, p, err)
		}
	}
}

// Of many there may be so many, and not one more.
func TestTakeMany(t *testing.T) {
	for many := 1; many <= mostMany; many++ {
		p := made(t, many)
		for i := range many {
			checkNew(t, p, "a", i+1)
			checkCounts(t, p, 0, 0, 0, i+1)
		}
		checkNoTake(t, p, "a", api.ErrFull)
		checkNoTake(t, p, "b", api.ErrFull)
		checkCounts(t, p, 0, 0, 0, many)
		checkGood(t, p, 1)
		checkNew(t, p, "b", many+1)
		checkNoTake(t, p, "a", api.ErrFull)
		checkCounts(t, p, 0, 0, 0, many)
	}
}

// Two Pools have nothing of each other.
func TestTakeOfTwoPools(t *testing.T) {
	p, q := with(t, 2, "a", "b"), made(t, 2)
	checkCounts(t, q, 0, 0, 0, 0)
	checkNoBack(t, q, 1, 2)
	checkGood(t, p, 1)
	checkTick(t, p, 100, 100)
	checkNew(t, q, "a", 1)
	checkTick(t, q, 5, 0)
	checkCounts(t, p, 1, 0, 0, 1)
	checkCounts(t, q, 0, 0, 0, 1)
}

func TestTakeAgain(t *testing.T) {
	p := with(t, 3, "a")
	for range 5 {
		checkGood(t, p, 1)
		checkCounts(t, p, 1, 0, 0, 0)
		checkAgain(t, p, "a", 1)
		checkCounts(t, p, 0, 0, 0, 1)
	}
	checkNew(t, p, "a", 2)
	checkGood(t, p, 1)
	checkAgain(t, p, "a", 1)
	checkNew(t, p, "a", 3)
	checkNoTake(t, p, "a", api.ErrFull)
}

// One that is Busy is nobody else's, though it is to the same place.
func TestTakeNoneThatIsBusy(t *testing.T) {
	p := with(t, 3, "a", "a", "b")
	checkGood(t, p, 3)
	checkNew(t, p, "a", 4)
	checkNoTake(t, p, "b", api.ErrFull)
	checkGood(t, p, 2)
	checkAgain(t, p, "a", 2)
}

// Places are the same by their bytes.
func TestTakeOtherPlaces(t *testing.T) {
	p := with(t, mostMany, "a", "A", "aa", "a-", "a_")
	checkGood(t, p, 1, 2, 3, 4, 5)
	checkNew(t, p, "Aa", 6)
	checkAgain(t, p, "A", 2)
	checkAgain(t, p, "a_", 5)
	checkAgain(t, p, "aa", 3)
	checkAgain(t, p, "a-", 4)
	checkAgain(t, p, "a", 1)
	checkNew(t, p, "A", 7)
}

// Of several that are Idle the one that came back last is taken: neither the first id nor the last one.
func TestTakeLast(t *testing.T) {
	for _, back := range [][]int{{1, 2, 3}, {1, 3, 2}, {2, 1, 3}, {2, 3, 1}, {3, 1, 2}, {3, 2, 1}} {
		for _, ticks := range []int{0, 1} {
			p := with(t, mostMany, "a", "a", "a", "b")
			for i, id := range back {
				checkGood(t, p, id)
				checkTick(t, p, ticks*(i+1), mostTime)
			}
			checkGood(t, p, 4)
			checkCounts(t, p, 3, 1, 0, 0)
			for i := range back {
				checkAgain(t, p, "a", back[2-i])
				checkCounts(t, p, 2-i, 1, 0, i+1)
			}
			checkNew(t, p, "a", 5)
		}
	}
}

// The Back that counts is the last one of each.
func TestTakeLastAnew(t *testing.T) {
	p := with(t, 3, "a", "a", "a")
	checkGood(t, p, 1, 2)
	checkAgain(t, p, "a", 2)
	checkAgain(t, p, "a", 1)
	checkGood(t, p, 2, 3, 1)
	checkAgain(t, p, "a", 1)
	checkGood(t, p, 1)
	checkAgain(t, p, "a", 1)
	checkAgain(t, p, "a", 3)
	checkGood(t, p, 1)
	checkAgain(t, p, "a", 1)
	checkAgain(t, p, "a", 2)
}

func TestTakeNewBesideIdle(t *testing.T) {
	p := with(t, 4, "a", "a", "b")
	checkGood(t, p, 2, 3, 1)
	checkNew(t, p, "c", 4)
	checkCounts(t, p, 2, 1, 0, 1)
	checkAgain(t, p, "b", 3)
	checkAgain(t, p, "a", 1)
	checkAgain(t, p, "a", 2)
	checkNoTake(t, p, "c", api.ErrFull)
}

// An Idle one to the place is taken ahead of room for a new one, and lets no other go.
func TestTakeIdleAheadOfNew(t *testing.T) {
	p := with(t, 3, "a", "b")
	checkGood(t, p, 1, 2)
	checkAgain(t, p, "a", 1)
	checkCounts(t, p, 0, 1, 0, 1)
	p = with(t, 3, "a", "b", "c")
	checkGood(t, p, 1, 2, 3)
	checkAgain(t, p, "b", 2)
	checkCounts(t, p, 1, 0, 1, 1)
}

// Where many are there the one that came back first of all goes, whatever its id and place.
func TestTakeMakesWay(t *testing.T) {
	for _, back := range [][]int{{1, 2, 3}, {1, 3, 2}, {2, 1, 3}, {2, 3, 1}, {3, 1, 2}, {3, 2, 1}} {
		for _, ticks := range []int{0, 1} {
			p := with(t, 3, "a", "b", "c")
			idle := map[int]int{}
			for i, id := range back {
				checkGood(t, p, id)
				checkTick(t, p, ticks*(i+1), mostTime)
				idle[id] = 1
			}
			for i, id := range back {
				checkNew(t, p, "d"+strconv.Itoa(i), 4+i)
				idle[id] = 0
				checkCounts(t, p, idle[1], idle[2], idle[3], i+1)
				checkNoBack(t, p, id)
			}
			checkNoTake(t, p, "a", api.ErrFull)
			checkNoTake(t, p, "e", api.ErrFull)
		}
	}
}

func TestTakeMakesWayAnew(t *testing.T) {
	p := with(t, 3, "a", "b", "a")
	checkGood(t, p, 1, 2)
	checkAgain(t, p, "a", 1)
	checkGood(t, p, 1)
	// 2 has come back first now.
	checkNew(t, p, "c", 4)
	checkCounts(t, p, 1, 0, 0, 2)
	checkNew(t, p, "b", 5)
	checkCounts(t, p, 0, 0, 0, 3)
	checkNoTake(t, p, "a", api.ErrFull)
	checkGood(t, p, 3)
	checkAgain(t, p, "a", 3)
}

// Of many 1 the one that is there goes for another place, each time.
func TestTakeOfOne(t *testing.T) {
	p := made(t, 1)
	for id := 1; id <= 20; id++ {
		to := string(rune('a' + id%2))
		checkNew(t, p, to, id)
		checkNoTake(t, p, to, api.ErrFull)
		checkNoTake(t, p, "c", api.ErrFull)
		checkGood(t, p, id)
		checkAgain(t, p, to, id)
		checkGood(t, p, id)
		checkIdle(t, p, to, 1)
	}
}

// No id is given twice, however those that had it have gone.
func TestTakeNewIDs(t *testing.T) {
	p := with(t, 2, "a", "a")
	checkBad(t, p, 2)
	checkNew(t, p, "a", 3)
	checkBad(t, p, 1, 3)
	checkNew(t, p, "a", 4)
	checkGood(t, p, 4)
	checkTick(t, p, 9, 8, 4)
	checkNew(t, p, "a", 5)
	checkNew(t, p, "b", 6)
	checkGood(t, p, 6, 5)
	checkNew(t, p, "c", 7)
	checkNew(t, p, "b", 8)
	checkNoTake(t, p, "a", api.ErrFull)
	checkBad(t, p, 8, 7)
	checkCounts(t, p, 0, 0, 0, 0)
	for id := 9; id <= 1000; id++ {
		checkNew(t, p, "a", id)
		checkBad(t, p, id)
	}
}

// An error takes no id.
func TestTakeNoIDForErrors(t *testing.T) {
	p := made(t, 1)
	checkNoTake(t, p, "", api.ErrSyntax)
	checkNew(t, p, "a", 1)
	checkNoTake(t, p, "b", api.ErrFull)
	checkNoTake(t, p, "a b", api.ErrSyntax)
	checkNoBack(t, p, 2)
	checkBad(t, p, 1)
	checkNew(t, p, "b", 2)
}

// ErrSyntax goes ahead of ErrFull.
func TestTakeNoPlace(t *testing.T) {
	for _, to := range noPlaces {
		p := made(t, 2)
		checkNoTake(t, p, to, api.ErrSyntax)
		checkCounts(t, p, 0, 0, 0, 0)
		checkNew(t, p, "a", 1)
		checkNoTake(t, p, to, api.ErrSyntax)
		checkNew(t, p, "b", 2)
		checkNoTake(t, p, "c", api.ErrFull)
		checkNoTake(t, p, to, api.ErrSyntax)
		checkGood(t, p, 1)
		checkNoTake(t, p, to, api.ErrSyntax)
		checkCounts(t, p, 1, 0, 0, 1)
		checkAgain(t, p, "a", 1)
	}
}

// Each byte, in each place of a text.
func TestTakeEachByte(t *testing.T) {
	may := map[byte]int{}
	for i := range len(tokenBytes) {
		may[tokenBytes[i]] = 1
	}
	for c := range 256 {
		s := string([]byte{byte(c)})
		for _, to := range []string{s, s + "bc", "a" + s + "c", "ab" + s} {
			p := made(t, 1)
			if may[byte(c)] == 0 {
				checkNoTake(t, p, to, api.ErrSyntax)
				continue
			}
			checkNew(t, p, to, 1)
			checkGood(t, p, 1)
			checkIdle(t, p, to, 1)
			checkAgain(t, p, to, 1)
		}
	}
}

func TestTakeLongest(t *testing.T) {
	p := made(t, 2)
	checkNew(t, p, xs(mostText), 1)
	checkNew(t, p, xs(mostText-1), 2)
	checkGood(t, p, 1, 2)
	checkNoTake(t, p, xs(mostText+1), api.ErrSyntax)
	checkIdle(t, p, xs(mostText), 1)
	checkIdle(t, p, xs(mostText-1), 1)
	checkIdle(t, p, xs(mostText+1), 0)
	checkAgain(t, p, xs(mostText), 1)
	checkAgain(t, p, xs(mostText-1), 2)
}
