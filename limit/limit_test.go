package limit

import (
	"maps"
	"math"
	"slices"
	"strconv"
	"testing"

	"tollgate/api"
	"tollgate/plain"
)

const most = 1_000_000

// Numbers that no rate and no burst may be, and no now.
var (
	below = []int{0, -1, -2, -most, math.MinInt32, math.MinInt + 1, math.MinInt}
	above = []int{most + 1, most + 2, 2 * most, math.MaxInt32, math.MaxUint32 + 2, math.MaxInt - 1, math.MaxInt}
	noNow = append([]int{-1, -2, -most, math.MinInt + 1, math.MinInt}, above...)
)

// made gives a Limit.
func made(t *testing.T, rate, burst int) *Limit {
	t.Helper()
	l, err := New(rate, burst)
	if l == nil || err != nil {
		t.Fatalf("New(%d, %d): got %v %v", rate, burst, l, err)
	}
	return l
}

// checkSame asks that a call with an error has changed nothing: before is what the Limit had.
func checkSame(t *testing.T, l *Limit, before map[string]bucket, what string, err error) {
	t.Helper()
	if err != nil && !maps.Equal(l.buckets, before) {
		t.Errorf("%s: %v has changed it: %v, before %v", what, err, l.buckets, before)
	}
}

func checkAsk(t *testing.T, l *Limit, key string, now, n int, want bool, told api.Errno) {
	t.Helper()
	before := maps.Clone(l.buckets)
	got, err := l.Ask(key, now, n)
	if got != want || plain.Told(err) != told {
		t.Errorf("Ask(%q, %d, %d): got %v %v, want %v %v", key, now, n, got, err, want, told)
	}
	checkSame(t, l, before, "Ask", err)
}

func checkLeft(t *testing.T, l *Limit, key string, now, want int, told api.Errno) {
	t.Helper()
	before := maps.Clone(l.buckets)
	got, err := l.Left(key, now)
	if got != want || plain.Told(err) != told {
		t.Errorf("Left(%q, %d): got %d %v, want %d %v", key, now, got, err, want, told)
	}
	checkSame(t, l, before, "Left", err)
}

func checkWait(t *testing.T, l *Limit, key string, now, n, want int, told api.Errno) {
	t.Helper()
	before := maps.Clone(l.buckets)
	got, err := l.Wait(key, now, n)
	if got != want || plain.Told(err) != told {
		t.Errorf("Wait(%q, %d, %d): got %d %v, want %d %v", key, now, n, got, err, want, told)
	}
	checkSame(t, l, before, "Wait", err)
}

// checkWrong asks that each of the three calls tells the same error.
func checkWrong(t *testing.T, l *Limit, key string, now, n int, told api.Errno) {
	t.Helper()
	checkAsk(t, l, key, now, n, false, told)
	checkLeft(t, l, key, now, 0, told)
	checkWait(t, l, key, now, n, 0, told)
}

func checkKeys(t *testing.T, l *Limit, want ...string) {
	t.Helper()
	if got := l.Keys(); !slices.Equal(got, want) {
		t.Errorf("Keys: got %q, want %q", got, want)
	}
}

// full has the keys 0 to 99, each of which asked for 1 at 10.
func full(t *testing.T, rate, burst int) *Limit {
	t.Helper()
	l := made(t, rate, burst)
	for i := range 100 {
		checkAsk(t, l, strconv.Itoa(i), 10, 1, true, api.OK)
	}
	return l
}

func TestNew(t *testing.T) {
	good := []int{1, 2, most - 1, most}
	for _, rate := range good {
		for _, burst := range good {
			l := made(t, rate, burst)
			checkKeys(t, l)
			checkLeft(t, l, "a", 0, burst, api.OK)
		}
	}
}

func TestNewRange(t *testing.T) {
	wrong := slices.Concat(below, above)
	for _, n := range wrong {
		pairs := [][2]int{{n, n}, {n, 0}, {most + 1, n}}
		for _, good := range []int{1, 2, most} {
			pairs = append(pairs, [2]int{n, good}, [2]int{good, n})
		}
		for _, p := range pairs {
			if l, err := New(p[0], p[1]); l != nil || plain.Told(err) != api.ErrRange {
				t.Errorf("New(%d, %d): got %v %v, want ErrRange", p[0], p[1], l, err)
			}
		}
	}
}

func TestAskForBurst(t *testing.T) {
	for _, burst := range []int{1, 2, 5, most} {
		for _, now := range []int{0, 1, most} {
			l := made(t, 1, burst)
			checkAsk(t, l, "a", now, burst, true, api.OK)
			checkLeft(t, l, "a", now, 0, api.OK)
			checkAsk(t, l, "a", now, 1, false, api.OK)
			checkAsk(t, l, "a", now, burst, false, api.OK)
		}
	}
}

func TestAskOneByOne(t *testing.T) {
	for _, burst := range []int{1, 2, 5, 1000} {
		l := made(t, 1, burst)
		for i := range burst {
			checkAsk(t, l, "a", 3, 1, true, api.OK)
			checkLeft(t, l, "a", 3, burst-i-1, api.OK)
		}
		checkAsk(t, l, "a", 3, 1, false, api.OK)
	}
}

// What is there behind some ticks, to no more than burst.
func TestAskBehindTicks(t *testing.T) {
	for _, c := range []struct{ rate, burst, ticks, left int }{
		{1, 5, 0, 0}, {1, 5, 1, 1}, {1, 5, 4, 4}, {1, 5, 5, 5}, {1, 5, 6, 5}, {1, 5, 1000, 5},
		{2, 5, 1, 2}, {2, 5, 2, 4}, {2, 5, 3, 5}, {2, 6, 3, 6}, {2, 7, 3, 6},
		{5, 5, 1, 5}, {6, 5, 1, 5}, {6, 5, 0, 0}, {most, 1, 1, 1},
	} {
		l := made(t, c.rate, c.burst)
		checkAsk(t, l, "a", 7, c.burst, true, api.OK)
		if c.left < c.burst {
			checkAsk(t, l, "a", 7+c.ticks, c.left+1, false, api.OK)
		}
		checkLeft(t, l, "a", 7+c.ticks, c.left, api.OK)
		if c.left > 0 {
			checkAsk(t, l, "a", 7+c.ticks, c.left, true, api.OK)
		}
		checkAsk(t, l, "a", 7+c.ticks, 1, false, api.OK)
	}
}

// What came above burst does not come back when some is taken.
func TestAskKeepsNoMoreThanBurst(t *testing.T) {
	l := made(t, 3, 5)
	checkAsk(t, l, "a", 0, 1, true, api.OK)
	checkAsk(t, l, "a", 100, 5, true, api.OK)
	checkAsk(t, l, "a", 100, 1, false, api.OK)
	checkAsk(t, l, "a", 101, 4, false, api.OK)
	checkAsk(t, l, "a", 101, 3, true, api.OK)
}

// The ticks are counted once each, however many calls there are between.
func TestAskTickByTick(t *testing.T) {
	l := made(t, 2, 100)
	checkAsk(t, l, "a", 0, 100, true, api.OK)
	for now := range 40 {
		for range 3 {
			checkLeft(t, l, "a", now, 2*now, api.OK)
			checkWait(t, l, "a", now, 100, 50-now, api.OK)
			checkAsk(t, l, "a", now, 2*now+1, false, api.OK)
		}
	}
	checkAsk(t, l, "a", 40, 80, true, api.OK)
	checkLeft(t, l, "a", 40, 0, api.OK)
}

// The ticks ahead of the first Ask give nothing more.
func TestAskLateAtFirst(t *testing.T) {
	l := made(t, 9, 5)
	checkLeft(t, l, "a", 1000, 5, api.OK)
	checkAsk(t, l, "a", 1000, 5, true, api.OK)
	checkAsk(t, l, "a", 1000, 1, false, api.OK)
}

func TestRefusalTakesNothing(t *testing.T) {
	l := made(t, 1, 10)
	checkAsk(t, l, "a", 0, 7, true, api.OK)
	for range 5 {
		checkAsk(t, l, "a", 0, 4, false, api.OK)
		checkAsk(t, l, "a", 0, 10, false, api.OK)
		checkLeft(t, l, "a", 0, 3, api.OK)
	}
	checkAsk(t, l, "a", 0, 3, true, api.OK)
	checkAsk(t, l, "a", 1, 2, false, api.OK)
	checkAsk(t, l, "a", 2, 2, true, api.OK)
}

// Numbers from 1 to burst may be asked, be the key there or none.
func TestBoundsOfN(t *testing.T) {
	for _, burst := range []int{1, 2, 9, most} {
		wrong := append([]int{burst + 1, burst + 2, most + 1, math.MaxInt}, below...)
		for _, n := range wrong {
			l := made(t, 1, burst)
			checkAsk(t, l, "a", 5, n, false, api.ErrRange)
			checkWait(t, l, "a", 5, n, 0, api.ErrRange)
			checkKeys(t, l)
			checkAsk(t, l, "a", 5, 1, true, api.OK)
			checkAsk(t, l, "a", 6, n, false, api.ErrRange)
			checkWait(t, l, "a", 6, n, 0, api.ErrRange)
			checkLeft(t, l, "a", 5, burst-1, api.OK)
		}
		for _, n := range []int{1, burst} {
			l := made(t, 1, burst)
			checkWait(t, l, "a", 0, n, 0, api.OK)
			checkAsk(t, l, "a", 0, n, true, api.OK)
			checkWait(t, l, "a", n, burst, 0, api.OK)
			checkAsk(t, l, "a", n, burst, true, api.OK)
			checkWait(t, l, "a", n, n, n, api.OK)
			checkAsk(t, l, "a", n, n, false, api.OK)
		}
	}
}

func TestBoundsOfNow(t *testing.T) {
	for _, now := range noNow {
		l := made(t, 1, 5)
		checkWrong(t, l, "a", now, 1, api.ErrRange)
		checkKeys(t, l)
		checkAsk(t, l, "a", 0, 3, true, api.OK)
		checkWrong(t, l, "a", now, 1, api.ErrRange)
		checkWrong(t, l, "b", now, 1, api.ErrRange)
		// None of those nows counts.
		checkLeft(t, l, "a", 0, 2, api.OK)
	}
	for _, now := range []int{0, 1, most - 1, most} {
		l := made(t, 1, 5)
		for range 2 {
			checkLeft(t, l, "a", now, 5, api.OK)
			checkWait(t, l, "a", now, 5, 0, api.OK)
		}
		checkAsk(t, l, "a", now, 3, true, api.OK)
		for range 2 {
			checkLeft(t, l, "a", now, 2, api.OK)
			checkWait(t, l, "a", now, 5, 3, api.OK)
		}
		checkAsk(t, l, "a", now, 2, true, api.OK)
		checkAsk(t, l, "a", now, 1, false, api.OK)
	}
}

func TestNowLessThanAhead(t *testing.T) {
	l := made(t, 1, 5)
	checkAsk(t, l, "a", 10, 2, true, api.OK)
	for _, now := range []int{0, 1, 9} {
		checkWrong(t, l, "a", now, 1, api.ErrState)
		checkWrong(t, l, "a", now, 5, api.ErrState)
	}
	checkLeft(t, l, "a", 10, 3, api.OK)
	checkAsk(t, l, "a", 10, 3, true, api.OK)
	checkAsk(t, l, "a", 11, 1, true, api.OK)
	checkWrong(t, l, "a", 10, 1, api.ErrState)
}

// Each key has times of its own.
func TestNowLessThanThatOfAnother(t *testing.T) {
	l := made(t, 1, 5)
	checkAsk(t, l, "a", 10, 2, true, api.OK)
	checkLeft(t, l, "b", 3, 5, api.OK)
	checkAsk(t, l, "b", 3, 5, true, api.OK)
	checkAsk(t, l, "c", 0, 1, true, api.OK)
	checkWrong(t, l, "a", 9, 1, api.ErrState)
	checkWrong(t, l, "b", 2, 1, api.ErrState)
	checkLeft(t, l, "b", 4, 1, api.OK)
	checkLeft(t, l, "c", 0, 4, api.OK)
	checkLeft(t, l, "a", 10, 3, api.OK)
}

// A now counts of each call on a key that is there, if it had no error.
func TestNowCounts(t *testing.T) {
	for i, say := range []func(*Limit){
		func(l *Limit) { checkAsk(t, l, "a", 20, 1, true, api.OK) },
		func(l *Limit) { checkAsk(t, l, "a", 20, 6, false, api.OK) },
		func(l *Limit) { checkLeft(t, l, "a", 20, 5, api.OK) },
		func(l *Limit) { checkWait(t, l, "a", 20, 5, 0, api.OK) },
		func(l *Limit) { checkWait(t, l, "a", 20, 6, 1, api.OK) },
	} {
		l := made(t, 1, 100)
		checkAsk(t, l, "a", 15, 100, true, api.OK)
		checkLeft(t, l, "a", 15, 0, api.OK)
		say(l)
		left := 5
		if i == 0 {
			left = 4
		}
		checkWrong(t, l, "a", 19, 1, api.ErrState)
		checkLeft(t, l, "a", 20, left, api.OK)
		checkLeft(t, l, "a", 21, left+1, api.OK)
		checkWrong(t, l, "a", 20, 1, api.ErrState)
	}
}

// A now of a call with an error does not count.
func TestNowOfAnErrorDoesNotCount(t *testing.T) {
	l := made(t, 1, 5)
	checkAsk(t, l, "a", 10, 5, true, api.OK)
	for _, n := range []int{0, -1, 6, math.MaxInt} {
		checkAsk(t, l, "a", 12, n, false, api.ErrRange)
		checkWait(t, l, "a", 12, n, 0, api.ErrRange)
	}
	checkWrong(t, l, "a", most+1, 1, api.ErrRange)
	checkWrong(t, l, "a", 9, 1, api.ErrState)
	checkLeft(t, l, "a", 10, 0, api.OK)
	checkWrong(t, l, "a", 9, 1, api.ErrState)
	checkAsk(t, l, "a", 11, 1, true, api.OK)
}

// Left and Wait of a key that is none leave it none: their now does not count either.
func TestNoneStaysNone(t *testing.T) {
	l := made(t, 1, 5)
	checkLeft(t, l, "a", 50, 5, api.OK)
	checkWait(t, l, "a", 60, 5, 0, api.OK)
	checkKeys(t, l)
	checkLeft(t, l, "a", 40, 5, api.OK)
	checkWait(t, l, "a", 30, 1, 0, api.OK)
	checkAsk(t, l, "a", 30, 6, false, api.ErrRange)
	checkKeys(t, l)
	checkAsk(t, l, "a", 2, 5, true, api.OK)
	checkKeys(t, l, "a")
	checkAsk(t, l, "a", 2, 1, false, api.OK)
	checkWrong(t, l, "a", 1, 1, api.ErrState)
}

func TestWhichErrorIsTold(t *testing.T) {
	l := made(t, 1, 5)
	checkAsk(t, l, "a", 10, 1, true, api.OK)
	// What is wrong with a number is told ahead of a time that is gone.
	for _, n := range []int{0, 6} {
		checkAsk(t, l, "a", 9, n, false, api.ErrRange)
		checkWait(t, l, "a", 9, n, 0, api.ErrRange)
		for _, now := range noNow {
			checkAsk(t, l, "a", now, n, false, api.ErrRange)
			checkWait(t, l, "a", now, n, 0, api.ErrRange)
		}
	}
	checkWrong(t, l, "a", -1, 1, api.ErrRange)
	// And ahead of too many keys.
	l = full(t, 1, 5)
	for _, n := range []int{0, 6} {
		checkAsk(t, l, "a", 10, n, false, api.ErrRange)
		checkWait(t, l, "a", 10, n, 0, api.ErrRange)
		checkAsk(t, l, "7", 9, n, false, api.ErrRange)
		checkWait(t, l, "7", 9, n, 0, api.ErrRange)
	}
	for _, now := range noNow {
		checkWrong(t, l, "a", now, 1, api.ErrRange)
	}
	checkWrong(t, l, "7", 9, 1, api.ErrState)
	checkWrong(t, l, "a", 9, 1, api.ErrFull)
}

func TestHundredKeys(t *testing.T) {
	l := full(t, 1, 2)
	for _, key := range []string{"a", "", "100", "00"} {
		for _, now := range []int{0, 10, most} {
			checkWrong(t, l, key, now, 1, api.ErrFull)
			checkWrong(t, l, key, now, 2, api.ErrFull)
		}
	}
	if n := len(l.Keys()); n != 100 {
		t.Errorf("Keys: got %d, want 100", n)
	}
	for i := range 100 {
		key := strconv.Itoa(i)
		checkAsk(t, l, key, 10, 2, false, api.OK)
		checkLeft(t, l, key, 10, 1, api.OK)
		checkWait(t, l, key, 10, 2, 1, api.OK)
		checkAsk(t, l, key, 11, 2, true, api.OK)
		checkAsk(t, l, key, 11, 1, false, api.OK)
	}
	checkWrong(t, l, "a", 11, 1, api.ErrFull)
	// A key that has all of its burst anew is there still.
	checkLeft(t, l, "5", most, 2, api.OK)
	checkWrong(t, l, "a", most, 1, api.ErrFull)
}

// Keys that only had errors, or were looked at, take no place of the hundred.
func TestNinetyNineKeys(t *testing.T) {
	l := made(t, 1, 2)
	for i := range 99 {
		checkAsk(t, l, strconv.Itoa(i), 10, 1, true, api.OK)
	}
	for i := range 50 {
		key := "x" + strconv.Itoa(i)
		checkLeft(t, l, key, 10, 2, api.OK)
		checkWait(t, l, key, 10, 2, 0, api.OK)
		checkAsk(t, l, key, 10, 3, false, api.ErrRange)
		checkAsk(t, l, key, -1, 1, false, api.ErrRange)
	}
	checkAsk(t, l, "x49", 10, 1, true, api.OK)
	checkAsk(t, l, "x48", 10, 1, false, api.ErrFull)
}

func TestWaitIsTheLeast(t *testing.T) {
	for rate := 1; rate <= 6; rate++ {
		for burst := 1; burst <= 12; burst++ {
			for left := 0; left < burst; left++ {
				for n := 1; n <= burst; n++ {
					checkWaitOf(t, rate, burst, left, n)
				}
			}
		}
	}
}

// checkWaitOf asks behind so many ticks as Wait says, and behind one fewer.
func checkWaitOf(t *testing.T, rate, burst, left, n int) {
	t.Helper()
	with := func() *Limit {
		l := made(t, rate, burst)
		checkAsk(t, l, "a", 4, burst-left, true, api.OK)
		return l
	}
	wait, err := with().Wait("a", 4, n)
	if err != nil || wait < 0 || (wait == 0) != (n <= left) {
		t.Fatalf("Wait of %d at %d of %d, %d a tick: got %d %v", n, left, burst, rate, wait, err)
	}
	checkAsk(t, with(), "a", 4+wait, n, true, api.OK)
	if wait > 0 {
		checkAsk(t, with(), "a", 4+wait-1, n, false, api.OK)
	}
}

func TestWait(t *testing.T) {
	l := made(t, 3, 10)
	checkWait(t, l, "a", 0, 10, 0, api.OK)
	checkAsk(t, l, "a", 0, 8, true, api.OK)
	for n, want := range map[int]int{1: 0, 2: 0, 3: 1, 5: 1, 6: 2, 8: 2, 9: 3, 10: 3} {
		checkWait(t, l, "a", 0, n, want, api.OK)
	}
	checkWait(t, l, "a", 1, 10, 2, api.OK)
	checkWait(t, l, "a", 2, 10, 1, api.OK)
	checkWait(t, l, "a", 3, 10, 0, api.OK)
	checkWait(t, l, "a", most, 10, 0, api.OK)
	// It takes nothing.
	checkAsk(t, l, "a", most, 10, true, api.OK)
}

// Wait tells of ticks that no now may reach any more.
func TestWaitBeyondTheLastTime(t *testing.T) {
	l := made(t, 1, most)
	checkAsk(t, l, "a", most, most, true, api.OK)
	checkWait(t, l, "a", most, 1, 1, api.OK)
	checkWait(t, l, "a", most, most, most, api.OK)
	checkAsk(t, l, "b", most-1, most, true, api.OK)
	checkWait(t, l, "b", most-1, most, most, api.OK)
	checkWait(t, l, "b", most, most, most-1, api.OK)
}

func TestKeysByBytes(t *testing.T) {
	l := made(t, 1, 5)
	want := []string{"", "\x00", "\x00a", "A", "Z", "a", "a\x00", "a/b", "aa", "b", "k10", "k2", "\x7f", "\x80", "\xc3\xa4", "\xff", "\xff\xff"}
	for i := range want {
		// A step that has no part in common with 17 goes through all of them.
		key := want[i*5%len(want)]
		checkLeft(t, l, key, 0, 5, api.OK)
		checkAsk(t, l, key, 0, 1, true, api.OK)
		checkAsk(t, l, key, 0, 1, true, api.OK)
	}
	checkAsk(t, l, "no", 0, 6, false, api.ErrRange)
	checkLeft(t, l, "nor this", 0, 5, api.OK)
	checkWait(t, l, "nor that", 0, 5, 0, api.OK)
	for range 20 {
		checkKeys(t, l, want...)
	}
}

// One whose Asks were refused behind the first is still a key.
func TestKeysThatAsked(t *testing.T) {
	l := made(t, 1, 1)
	checkKeys(t, l)
	checkAsk(t, l, "b", 0, 1, true, api.OK)
	checkKeys(t, l, "b")
	checkAsk(t, l, "b", 0, 1, false, api.OK)
	checkKeys(t, l, "b")
	checkAsk(t, l, "a", 0, 1, true, api.OK)
	checkKeys(t, l, "a", "b")
	checkLeft(t, l, "b", most, 1, api.OK)
	checkKeys(t, l, "a", "b")
}

func TestKeysAreNewMemory(t *testing.T) {
	l := made(t, 1, 5)
	for _, key := range []string{"c", "a", "b"} {
		checkAsk(t, l, key, 0, 1, true, api.OK)
	}
	first, second := l.Keys(), l.Keys()
	first[0] = "z"
	first = append(first[:1], "y", "x")
	if !slices.Equal(second, []string{"a", "b", "c"}) {
		t.Errorf("Keys: %q is changed by %q", second, first)
	}
	checkKeys(t, l, "a", "b", "c")
	checkLeft(t, l, "z", 0, 5, api.OK)
	checkAsk(t, l, "d", 0, 1, true, api.OK)
	if len(second) != 3 {
		t.Errorf("Keys: %q has grown", second)
	}
}

func TestGreatestNumbers(t *testing.T) {
	l := made(t, most, most)
	checkAsk(t, l, "a", 0, most, true, api.OK)
	checkWait(t, l, "a", 0, 1, 1, api.OK)
	checkWait(t, l, "a", 0, most, 1, api.OK)
	checkLeft(t, l, "a", 0, 0, api.OK)
	checkLeft(t, l, "a", most, most, api.OK)
	checkAsk(t, l, "a", most, most, true, api.OK)
	checkAsk(t, l, "a", most, 1, false, api.OK)
	checkWait(t, l, "a", most, most, 1, api.OK)
	checkAsk(t, l, "b", most, most, true, api.OK)
	checkWrong(t, l, "b", most-1, most, api.ErrState)

	l = made(t, 1, most)
	checkAsk(t, l, "a", 0, most, true, api.OK)
	checkLeft(t, l, "a", most-1, most-1, api.OK)
	checkAsk(t, l, "a", most-1, most, false, api.OK)
	checkWait(t, l, "a", most-1, most, 1, api.OK)
	checkAsk(t, l, "a", most, most, true, api.OK)

	l = made(t, most-1, most)
	checkAsk(t, l, "a", 0, most, true, api.OK)
	checkWait(t, l, "a", 0, most-1, 1, api.OK)
	checkWait(t, l, "a", 0, most, 2, api.OK)
	checkLeft(t, l, "a", 1, most-1, api.OK)
	checkLeft(t, l, "a", 2, most, api.OK)

	l = made(t, most, 1)
	checkAsk(t, l, "a", most-1, 1, true, api.OK)
	checkWait(t, l, "a", most-1, 1, 1, api.OK)
	checkAsk(t, l, "a", most, 1, true, api.OK)
}

func TestTwoAreApart(t *testing.T) {
	a, b := made(t, 1, 5), made(t, 2, 7)
	checkAsk(t, a, "k", 10, 5, true, api.OK)
	checkKeys(t, b)
	checkAsk(t, b, "k", 3, 7, true, api.OK)
	checkLeft(t, b, "k", 4, 2, api.OK)
	checkLeft(t, a, "k", 11, 1, api.OK)
}
