package pool

import (
	"slices"
	"testing"

	"tollgate/api"
)

func TestTickTimes(t *testing.T) {
	for _, now := range []int{0, 1, 2, mostTime - 1, mostTime} {
		for _, old := range []int{0, 1, 2, mostTime - 1, mostTime} {
			p := with(t, 2, "a", "b")
			checkGood(t, p, 1)
			if now > old {
				checkTick(t, p, now, old, 1)
				checkCounts(t, p, 0, 0, 0, 1)
				continue
			}
			checkTick(t, p, now, old)
			checkCounts(t, p, 1, 0, 0, 1)
		}
	}
}

// ErrRange goes ahead of ErrState, and an error lets none go and is no time.
func TestTickRange(t *testing.T) {
	for _, n := range noTimes {
		for _, pair := range [][2]int{{n, 0}, {n, 1}, {n, mostTime}, {0, n}, {9, n}, {10, n}, {11, n}, {mostTime, n}, {n, n}, {n, -1}, {-1, n}, {mostTime + 1, n}} {
			p := with(t, 3, "a", "b", "c")
			checkGood(t, p, 1)
			checkNoTick(t, p, pair[0], pair[1], api.ErrRange)
			checkTick(t, p, 10, 10)
			checkGood(t, p, 2)
			checkNoTick(t, p, pair[0], pair[1], api.ErrRange)
			checkCounts(t, p, 1, 1, 0, 1)
			// It is 10 still: 9 is less, and 3 comes back at 10.
			checkNoTick(t, p, 9, 0, api.ErrState)
			checkGood(t, p, 3)
			checkTick(t, p, 11, 10, 1)
			checkTick(t, p, 20, 10)
			checkTick(t, p, 21, 10, 2, 3)
		}
	}
}

func TestTickLess(t *testing.T) {
	p := with(t, 2, "a", "b")
	checkGood(t, p, 1)
	checkTick(t, p, 5, mostTime)
	for _, now := range []int{0, 1, 4} {
		for _, old := range []int{0, 1, 5, mostTime} {
			checkNoTick(t, p, now, old, api.ErrState)
		}
	}
	checkCounts(t, p, 1, 0, 0, 1)
	checkGood(t, p, 2)
	checkTick(t, p, 5, 5)
	checkTick(t, p, 5, 4, 1)
	checkTick(t, p, 5, 0)
	checkTick(t, p, 6, 0, 2)
	checkTick(t, p, mostTime, 0)
	checkNoTick(t, p, mostTime-1, 0, api.ErrState)
	checkTick(t, p, mostTime, 0)
}

// The time goes on though there is none, or none that goes.
func TestTickOfNone(t *testing.T) {
	p := made(t, 2)
	checkTick(t, p, 7, 0)
	checkNoTick(t, p, 6, 0, api.ErrState)
	checkNew(t, p, "a", 1)
	checkGood(t, p, 1)
	checkTick(t, p, 9, 2)
	checkNoTick(t, p, 8, 0, api.ErrState)
	checkTick(t, p, 9, 1, 1)
}

// One that is just so old stays.
func TestTickJustOld(t *testing.T) {
	for _, at := range []int{0, 1, 10, 1000, mostTime / 2} {
		for _, old := range []int{0, 1, 2, 10, 1000, mostTime/2 - 1} {
			p := with(t, 2, "a")
			checkTick(t, p, at, 0)
			checkGood(t, p, 1)
			checkTick(t, p, at, old)
			checkTick(t, p, at+old, old)
			checkCounts(t, p, 1, 0, 0, 0)
			checkTick(t, p, at+old+1, old, 1)
			checkCounts(t, p, 0, 0, 0, 0)
			checkTick(t, p, at+old+1, old)
		}
	}
}

// Each Tick has an old of its own: none is kept.
func TestTickOtherOld(t *testing.T) {
	p := with(t, 3, "a", "a", "a")
	checkGood(t, p, 1)
	checkTick(t, p, 4, 10)
	checkGood(t, p, 2)
	checkTick(t, p, 8, 10)
	checkGood(t, p, 3)
	checkTick(t, p, 9, 8, 1)
	checkTick(t, p, 9, 5)
	checkTick(t, p, 9, 4, 2)
	checkTick(t, p, 9, 1)
	checkTick(t, p, 9, 0, 3)
}

// A Back comes at the time of the last Tick, 0 at first.
func TestTickTimeOfBack(t *testing.T) {
	p := with(t, 4, "a", "b", "c", "d")
	checkGood(t, p, 1)
	checkTick(t, p, 3, 3)
	checkGood(t, p, 2)
	checkTick(t, p, 5, 5)
	checkTick(t, p, 7, 7)
	checkGood(t, p, 3, 4)
	checkTick(t, p, 10, 9, 1)
	checkTick(t, p, 12, 9)
	checkTick(t, p, 13, 9, 2)
	checkTick(t, p, 16, 9)
	checkTick(t, p, 17, 9, 3, 4)
}

// It is as old as its last Back, whenever it came first.
func TestTickBackAnew(t *testing.T) {
	p := with(t, 3, "a", "b")
	checkGood(t, p, 1, 2)
	checkTick(t, p, 5, 5)
	checkAgain(t, p, "a", 1)
	checkGood(t, p, 1)
	checkTick(t, p, 6, 5, 2)
	checkTick(t, p, 10, 5)
	checkTick(t, p, 11, 5, 1)
}

// Several go, by rising ids: not in the order in which they came back.
func TestTickSeveral(t *testing.T) {
	for range 20 {
		p := with(t, mostMany, "a", "b", "c", "a", "b", "c", "a", "b")
		checkGood(t, p, 8, 3, 5, 1, 2)
		checkTick(t, p, 1, 1)
		checkGood(t, p, 7, 6, 4)
		checkTick(t, p, 5, 4, 1, 2, 3, 5, 8)
		checkCounts(t, p, 2, 0, 1, 0)
		checkTick(t, p, 6, 4, 4, 6, 7)
		checkCounts(t, p, 0, 0, 0, 0)
	}
	for range 20 {
		p := with(t, mostMany, "a", "a", "a", "a", "a", "a", "a", "a")
		for id := mostMany; id > 0; id-- {
			checkGood(t, p, id)
			checkTick(t, p, mostMany-id, mostTime)
		}
		checkTick(t, p, 100, 0, 1, 2, 3, 4, 5, 6, 7, 8)
	}
	p := made(t, 3)
	for id := 1; id <= 20; id++ {
		checkNew(t, p, "a", id)
		checkBad(t, p, id)
	}
	checkNew(t, p, "a", 21)
	checkNew(t, p, "b", 22)
	checkNew(t, p, "c", 23)
	checkGood(t, p, 22, 23, 21)
	checkTick(t, p, 1, 0, 21, 22, 23)
}

func TestTickNoneThatIsBusy(t *testing.T) {
	p := with(t, 3, "a", "b", "c")
	checkGood(t, p, 1, 2)
	checkAgain(t, p, "a", 1)
	checkTick(t, p, mostTime-1, 0, 2)
	checkCounts(t, p, 0, 0, 0, 2)
	checkTick(t, p, mostTime, 0)
	checkCounts(t, p, 0, 0, 0, 2)
	checkGood(t, p, 1, 3)
	checkTick(t, p, mostTime, 0)
	checkCounts(t, p, 1, 0, 1, 0)
	checkAgain(t, p, "a", 1)
}

// Those that went have made room, and are taken no more.
func TestTickMakesRoom(t *testing.T) {
	p := with(t, 2, "a", "b")
	checkGood(t, p, 1)
	checkTick(t, p, 1, 1)
	checkGood(t, p, 2)
	checkTick(t, p, 2, 1, 1)
	checkNew(t, p, "a", 3)
	checkCounts(t, p, 0, 1, 0, 1)
	checkAgain(t, p, "b", 2)
	checkNoTake(t, p, "a", api.ErrFull)
}

// What came out is the caller's.
func TestTickIsNewMemory(t *testing.T) {
	p := with(t, 4, "a", "b", "c", "d")
	checkGood(t, p, 2, 1)
	first, _ := p.Tick(1, 0)
	checkGood(t, p, 4, 3)
	before := deep(p)
	for _, l := range [][]int{first, first[:cap(first)]} {
		for i := range l {
			l[i] = 99
		}
	}
	checkSame(t, p, before, "the caller")
	second, _ := p.Tick(2, 0)
	if !slices.Equal(second, []int{3, 4}) || !slices.Equal(first, []int{99, 99}) {
		t.Errorf("got %v and %v", first, second)
	}
}
