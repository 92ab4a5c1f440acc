package pool

import (
	"math"
	"testing"

	"tollgate/api"
)

// Ids that none ever has.
var noIDs = []int{0, -1, -2, math.MinInt32, math.MinInt, math.MaxInt32, math.MaxInt}

func TestBackGood(t *testing.T) {
	p := with(t, 3, "a", "b", "a")
	checkCounts(t, p, 0, 0, 0, 3)
	checkGood(t, p, 3)
	checkCounts(t, p, 1, 0, 0, 2)
	checkGood(t, p, 2)
	checkCounts(t, p, 1, 1, 0, 1)
	checkGood(t, p, 1)
	checkCounts(t, p, 2, 1, 0, 0)
}

func TestBackNotGood(t *testing.T) {
	p := with(t, 3, "a", "b", "a")
	checkBad(t, p, 3)
	checkCounts(t, p, 0, 0, 0, 2)
	checkGood(t, p, 1)
	checkBad(t, p, 2)
	checkCounts(t, p, 1, 0, 0, 0)
	// One that was Idle once may be of no use any more later.
	checkAgain(t, p, "a", 1)
	checkBad(t, p, 1)
	checkCounts(t, p, 0, 0, 0, 0)
	checkTick(t, p, mostTime, 0)
	checkNew(t, p, "a", 4)
}

// One that is gone has made room.
func TestBackNotGoodMakesRoom(t *testing.T) {
	p := with(t, 2, "a", "b")
	checkGood(t, p, 1)
	checkBad(t, p, 2)
	checkNew(t, p, "b", 3)
	checkCounts(t, p, 1, 0, 0, 1)
	checkAgain(t, p, "a", 1)
	checkNoTake(t, p, "b", api.ErrFull)
	checkBad(t, p, 1)
	checkNew(t, p, "b", 4)
	checkNoTake(t, p, "b", api.ErrFull)
}

func TestBackNeverGiven(t *testing.T) {
	p := made(t, 2)
	checkNoBack(t, p, noIDs...)
	checkNoBack(t, p, 1, 2, 3)
	checkNew(t, p, "a", 1)
	checkNoBack(t, p, noIDs...)
	checkNoBack(t, p, 2, 3)
	checkNew(t, p, "b", 2)
	checkGood(t, p, 1)
	checkNoBack(t, p, noIDs...)
	checkNoBack(t, p, 3, 4, mostMany)
	checkCounts(t, p, 1, 0, 0, 1)
	checkGood(t, p, 2)
}

// One that is Idle comes not back.
func TestBackTwice(t *testing.T) {
	p := with(t, 3, "a", "a")
	checkGood(t, p, 1)
	checkNoBack(t, p, 1)
	checkGood(t, p, 2)
	checkNoBack(t, p, 1, 2)
	checkCounts(t, p, 2, 0, 0, 0)
	// Its second Back has not made it the last one.
	checkNoBack(t, p, 1)
	checkAgain(t, p, "a", 2)
	checkNoBack(t, p, 1)
	checkGood(t, p, 2)
	checkNoBack(t, p, 2)
}

// The second Back has not made it younger.
func TestBackTwiceIsAsOld(t *testing.T) {
	p := with(t, 3, "a")
	checkGood(t, p, 1)
	checkTick(t, p, 5, 5)
	checkNoBack(t, p, 1)
	checkTick(t, p, 6, 5, 1)
}

func TestBackGone(t *testing.T) {
	p := with(t, 3, "a", "b", "c")
	checkBad(t, p, 1)
	checkNoBack(t, p, 1)
	checkGood(t, p, 2)
	checkTick(t, p, 3, 2, 2)
	checkNoBack(t, p, 1, 2)
	checkGood(t, p, 3)
	checkNew(t, p, "a", 4)
	checkNew(t, p, "a", 5)
	checkNew(t, p, "a", 6)
	checkNoBack(t, p, 1, 2, 3)
	checkCounts(t, p, 0, 0, 0, 3)
	checkGood(t, p, 4, 5, 6)
}

// Of a text that is no place there is none, though it begins or ends so.
func TestIdleOfOtherTexts(t *testing.T) {
	p := with(t, mostMany, "a", "a", "x", "A")
	checkGood(t, p, 1, 2, 3)
	for _, to := range append([]string{"A", "b", "aa", "xx", "1", "z"}, noPlaces...) {
		checkIdle(t, p, to, 0)
	}
	checkCounts(t, p, 2, 0, 0, 1)
	checkIdle(t, p, "x", 1)
	checkGood(t, p, 4)
	checkIdle(t, p, "A", 1)
	checkIdle(t, p, "a", 2)
}

func TestCountsBehindEach(t *testing.T) {
	p := with(t, 4, "a", "b", "a")
	checkCounts(t, p, 0, 0, 0, 3)
	checkGood(t, p, 1)
	checkCounts(t, p, 1, 0, 0, 2)
	checkTick(t, p, 2, 2)
	checkCounts(t, p, 1, 0, 0, 2)
	checkGood(t, p, 2, 3)
	checkCounts(t, p, 2, 1, 0, 0)
	checkTick(t, p, 3, 2, 1)
	checkCounts(t, p, 1, 1, 0, 0)
	checkAgain(t, p, "a", 3)
	checkCounts(t, p, 0, 1, 0, 1)
	checkNew(t, p, "c", 4)
	checkCounts(t, p, 0, 1, 0, 2)
	checkTick(t, p, 5, 2, 2)
	checkCounts(t, p, 0, 0, 0, 2)
	checkGood(t, p, 4)
	checkBad(t, p, 3)
	checkCounts(t, p, 0, 0, 1, 0)
}
