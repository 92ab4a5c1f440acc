package pick

import (
	"maps"
	"math"
	"math/big"
	"slices"
	"testing"

	"tollgate/api"
	"tollgate/plain"
)

const top = 1 << 62

// Numbers that no id, no weight, and no number that is sent may be.
var (
	noIDs     = []int{math.MinInt, math.MinInt + 1, -api.MaxWord, -2, -1, 0, api.MaxWord + 1, api.MaxWord + 2, math.MaxUint32, math.MaxUint32 + 2, math.MaxInt - 1, math.MaxInt}
	noWeights = []int{math.MinInt, math.MinInt + 1, -256, -1, 0, 257, 258, 512, math.MaxInt32, math.MaxUint32 + 2, math.MaxInt - 1, math.MaxInt}
	noSent    = []int{math.MinInt, math.MinInt + 1, -api.MaxTime, -2, -1, api.MaxTime + 1, api.MaxTime + 2, math.MaxUint32, math.MaxInt/65536 + 1, math.MaxInt - 1, math.MaxInt}
)

// checkErr asks that an error changes nothing: before is what the Picker had.
func checkErr(t *testing.T, p *Picker, before map[int]one, what string, err error, want api.Errno) {
	t.Helper()
	if plain.Told(err) != want {
		t.Errorf("%s: got %v, want %v", what, err, want)
	}
	if err != nil && !maps.Equal(p.ids, before) {
		t.Errorf("%s: %v has changed it: %v, before %v", what, err, p.ids, before)
	}
}

func checkAdd(t *testing.T, p *Picker, id, weight int, want api.Errno) {
	t.Helper()
	before := maps.Clone(p.ids)
	checkErr(t, p, before, "Add", p.Add(id, weight), want)
}

func checkDrop(t *testing.T, p *Picker, id int, want api.Errno) {
	t.Helper()
	before := maps.Clone(p.ids)
	checkErr(t, p, before, "Drop", p.Drop(id), want)
}

func checkWant(t *testing.T, p *Picker, id int, yes bool, want api.Errno) {
	t.Helper()
	before := maps.Clone(p.ids)
	checkErr(t, p, before, "Want", p.Want(id, yes), want)
}

func checkSent(t *testing.T, p *Picker, id, n int, want api.Errno) {
	t.Helper()
	before := maps.Clone(p.ids)
	checkErr(t, p, before, "Sent", p.Sent(id, n), want)
}

// checkNext asks twice, as asking changes nothing. Of 0 it asks that there is none.
func checkNext(t *testing.T, p *Picker, want int) {
	t.Helper()
	for range 2 {
		if id, ok := p.Next(); id != want || ok != (want != 0) {
			t.Errorf("Next: got %d %v, want %d %v", id, ok, want, want != 0)
		}
	}
}

func checkScore(t *testing.T, p *Picker, id, want int) {
	t.Helper()
	if got := p.ids[id].score; got != want {
		t.Errorf("score of %d: got %d, want %d", id, got, want)
	}
}

// checkTurns asks for the turns of all that want, and drops them.
func checkTurns(t *testing.T, p *Picker, want ...int) {
	t.Helper()
	var got []int
	for id, ok := p.Next(); ok; id, ok = p.Next() {
		got = append(got, id)
		checkDrop(t, p, id, api.OK)
	}
	if !slices.Equal(got, want) {
		t.Errorf("turns: got %v, want %v", got, want)
	}
}

// with adds ids of weight 1 that want and have sent so much.
func with(t *testing.T, sent ...[2]int) *Picker {
	t.Helper()
	p := New()
	for _, s := range sent {
		checkAdd(t, p, s[0], 1, api.OK)
	}
	for _, s := range sent {
		checkSent(t, p, s[0], s[1], api.OK)
	}
	// From the least to the greatest, none is raised as it begins to want.
	rest := slices.Clone(sent)
	slices.SortFunc(rest, func(a, b [2]int) int { return a[1] - b[1] })
	for _, s := range rest {
		checkWant(t, p, s[0], true, api.OK)
	}
	return p
}

// full has the ids from 1 to 100.
func full(t *testing.T) *Picker {
	t.Helper()
	p := New()
	for i := range 100 {
		checkAdd(t, p, i+1, 1, api.OK)
	}
	return p
}

func TestNewHasNone(t *testing.T) {
	p := New()
	checkNext(t, p, 0)
	for _, id := range append([]int{1, 2, api.MaxWord}, noIDs...) {
		checkDrop(t, p, id, api.ErrNone)
		checkWant(t, p, id, true, api.ErrNone)
		checkWant(t, p, id, false, api.ErrNone)
		checkSent(t, p, id, 0, api.ErrNone)
	}
	checkNext(t, p, 0)
}

func TestAddID(t *testing.T) {
	p := New()
	for _, id := range noIDs {
		checkAdd(t, p, id, 1, api.ErrRange)
		checkWant(t, p, id, true, api.ErrNone)
	}
	ids := []int{1, 2, 255, api.MaxWord - 1, api.MaxWord}
	for _, id := range ids {
		checkAdd(t, p, id, 1, api.OK)
		checkNext(t, p, 0)
	}
	for _, id := range ids {
		checkWant(t, p, id, true, api.OK)
	}
	checkTurns(t, p, ids...)
}

func TestAddWeight(t *testing.T) {
	p := New()
	for _, w := range noWeights {
		checkAdd(t, p, 1, w, api.ErrRange)
		checkWant(t, p, 1, true, api.ErrNone)
	}
	for _, w := range []int{1, 2, 128, 255, 256} {
		checkAdd(t, p, w, w, api.OK)
		checkSent(t, p, w, 256, api.OK)
	}
	for _, w := range []int{256, 255, 128, 2, 1} {
		checkWant(t, p, w, true, api.OK)
	}
	checkTurns(t, p, 256, 255, 128, 2, 1)
}

func TestAddClash(t *testing.T) {
	p := with(t, [2]int{4, 7}, [2]int{9, 3})
	for _, w := range []int{1, 2, 256} {
		checkAdd(t, p, 9, w, api.ErrClash)
	}
	checkNext(t, p, 9)
	// Its weight is still 1, and it still wants.
	checkSent(t, p, 9, 5, api.OK)
	checkNext(t, p, 4)
	checkDrop(t, p, 9, api.OK)
	checkAdd(t, p, 9, 2, api.OK)
	checkAdd(t, p, 9, 2, api.ErrClash)
}

func TestAddFull(t *testing.T) {
	p := full(t)
	checkAdd(t, p, 101, 1, api.ErrFull)
	checkAdd(t, p, api.MaxWord, 256, api.ErrFull)
	checkWant(t, p, 101, true, api.ErrNone)
	checkDrop(t, p, 50, api.OK)
	checkAdd(t, p, 101, 1, api.OK)
	checkAdd(t, p, 50, 1, api.ErrFull)
	checkDrop(t, p, 1, api.OK)
	checkDrop(t, p, 2, api.OK)
	checkAdd(t, p, 2, 1, api.OK)
	checkAdd(t, p, 50, 1, api.OK)
	checkAdd(t, p, 1, 1, api.ErrFull)
}

// Those that want and those that do not are counted alike.
func TestAddFullOfThoseThatWant(t *testing.T) {
	p := full(t)
	for i := range 60 {
		checkWant(t, p, i+1, true, api.OK)
	}
	checkAdd(t, p, 101, 1, api.ErrFull)
	checkWant(t, p, 3, false, api.OK)
	checkAdd(t, p, 101, 1, api.ErrFull)
	checkDrop(t, p, 3, api.OK)
	checkAdd(t, p, 101, 1, api.OK)
}

func TestAddWhichIsTold(t *testing.T) {
	p := New()
	checkAdd(t, p, 7, 1, api.OK)
	for _, w := range noWeights {
		checkAdd(t, p, 7, w, api.ErrRange)
		for _, id := range noIDs {
			checkAdd(t, p, id, w, api.ErrRange)
		}
	}
	p = full(t)
	checkAdd(t, p, 1, 1, api.ErrClash)
	checkAdd(t, p, 100, 256, api.ErrClash)
	for _, w := range noWeights {
		checkAdd(t, p, 100, w, api.ErrRange)
		checkAdd(t, p, 101, w, api.ErrRange)
	}
	for _, id := range noIDs {
		checkAdd(t, p, id, 1, api.ErrRange)
	}
}

func TestAddScoreWhileOthersWant(t *testing.T) {
	p := with(t, [2]int{10, 7}, [2]int{20, 5}, [2]int{30, 9})
	// One that has less and does not want is not asked.
	checkWant(t, p, 20, false, api.OK)
	checkAdd(t, p, 11, 1, api.OK)
	checkScore(t, p, 11, 7*65536)
	checkNext(t, p, 10)
	checkDrop(t, p, 10, api.OK)
	checkAdd(t, p, 12, 1, api.OK)
	checkScore(t, p, 12, 9*65536)
	// 30 goes: what they have they have by Add, and not by Want.
	checkWant(t, p, 30, false, api.OK)
	checkWant(t, p, 12, true, api.OK)
	checkWant(t, p, 20, true, api.OK)
	checkWant(t, p, 11, true, api.OK)
	checkTurns(t, p, 11, 12, 20)
}

// The weight of one that is added does not bear on its score.
func TestAddScoreOfAnyWeight(t *testing.T) {
	p := with(t, [2]int{2, 5})
	checkAdd(t, p, 1, 256, api.OK)
	checkAdd(t, p, 3, 1, api.OK)
	checkScore(t, p, 1, 5*65536)
	checkScore(t, p, 3, 5*65536)
}

func TestAddScoreWhileNoneWants(t *testing.T) {
	p := with(t, [2]int{10, 7}, [2]int{20, 5})
	checkWant(t, p, 10, false, api.OK)
	checkWant(t, p, 20, false, api.OK)
	checkAdd(t, p, 30, 1, api.OK)
	checkScore(t, p, 30, 0)
	checkWant(t, p, 30, true, api.OK)
	checkWant(t, p, 10, true, api.OK)
	checkWant(t, p, 20, true, api.OK)
	checkTurns(t, p, 30, 20, 10)
}

func TestDrop(t *testing.T) {
	p := with(t, [2]int{1, 2}, [2]int{2, 3}, [2]int{3, 4})
	checkDrop(t, p, 4, api.ErrNone)
	for _, id := range noIDs {
		checkDrop(t, p, id, api.ErrNone)
	}
	checkNext(t, p, 1)
	checkDrop(t, p, 1, api.OK)
	checkNext(t, p, 2)
	checkDrop(t, p, 1, api.ErrNone)
	checkWant(t, p, 1, true, api.ErrNone)
	checkSent(t, p, 1, 1, api.ErrNone)
	checkDrop(t, p, 3, api.OK)
	checkNext(t, p, 2)
	checkDrop(t, p, 2, api.OK)
	checkNext(t, p, 0)
	checkDrop(t, p, 2, api.ErrNone)
}

// One that comes back has nothing of what it was.
func TestDropAndAdd(t *testing.T) {
	p := with(t, [2]int{1, 900})
	checkDrop(t, p, 1, api.OK)
	checkAdd(t, p, 1, 2, api.OK)
	checkNext(t, p, 0)
	checkScore(t, p, 1, 0)
	checkSent(t, p, 1, 1, api.OK)
	checkScore(t, p, 1, 32768)
}

func TestDropOneThatDoesNotWant(t *testing.T) {
	p := with(t, [2]int{1, 2}, [2]int{2, 3})
	checkWant(t, p, 1, false, api.OK)
	checkDrop(t, p, 1, api.OK)
	checkNext(t, p, 2)
	checkDrop(t, p, 1, api.ErrNone)
}

func TestWantNone(t *testing.T) {
	p := with(t, [2]int{1, 2})
	for _, id := range append([]int{2, api.MaxWord}, noIDs...) {
		checkWant(t, p, id, true, api.ErrNone)
		checkWant(t, p, id, false, api.ErrNone)
	}
	checkNext(t, p, 1)
}

func TestWantAnewWithLess(t *testing.T) {
	p := with(t, [2]int{10, 7}, [2]int{20, 5}, [2]int{30, 2})
	checkWant(t, p, 30, false, api.OK)
	checkScore(t, p, 30, 2*65536)
	checkWant(t, p, 30, true, api.OK)
	checkScore(t, p, 30, 5*65536)
	checkScore(t, p, 20, 5*65536)
	checkNext(t, p, 20)
	// It keeps what it got.
	checkWant(t, p, 30, false, api.OK)
	checkWant(t, p, 20, false, api.OK)
	checkWant(t, p, 10, false, api.OK)
	checkWant(t, p, 30, true, api.OK)
	checkScore(t, p, 30, 5*65536)
}

func TestWantAnewWithMore(t *testing.T) {
	p := with(t, [2]int{10, 7}, [2]int{20, 5}, [2]int{30, 6})
	for _, id := range []int{10, 30} {
		checkWant(t, p, id, false, api.OK)
		checkWant(t, p, id, true, api.OK)
	}
	checkScore(t, p, 10, 7*65536)
	checkScore(t, p, 30, 6*65536)
	checkTurns(t, p, 20, 30, 10)
}

// One less, as many, and one more than the least of those that want.
func TestWantAnewNearTheLeast(t *testing.T) {
	for _, own := range []int{4, 5, 6} {
		p := New()
		checkAdd(t, p, 1, 1, api.OK)
		checkSent(t, p, 1, own, api.OK)
		checkAdd(t, p, 2, 1, api.OK)
		checkSent(t, p, 2, 5, api.OK)
		checkWant(t, p, 2, true, api.OK)
		checkWant(t, p, 1, true, api.OK)
		checkScore(t, p, 1, max(own, 5)*65536)
		checkScore(t, p, 2, 5*65536)
	}
}

// Only the one that wants anew is raised, not those that wait.
func TestWantAlready(t *testing.T) {
	p := with(t, [2]int{10, 7}, [2]int{20, 5})
	for range 3 {
		checkWant(t, p, 20, true, api.OK)
		checkScore(t, p, 20, 5*65536)
		checkNext(t, p, 20)
		checkWant(t, p, 10, true, api.OK)
		checkScore(t, p, 10, 7*65536)
		checkNext(t, p, 20)
	}
	checkTurns(t, p, 20, 10)
}

func TestWantOnlyOne(t *testing.T) {
	p := New()
	checkAdd(t, p, 5, 1, api.OK)
	checkAdd(t, p, 6, 1, api.OK)
	checkSent(t, p, 6, 3, api.OK)
	checkWant(t, p, 5, true, api.OK)
	checkScore(t, p, 5, 0)
	checkNext(t, p, 5)
	checkWant(t, p, 5, false, api.OK)
	checkWant(t, p, 6, true, api.OK)
	checkScore(t, p, 6, 3*65536)
	checkNext(t, p, 6)
	// The only one that wants is the least of all, and stays what it is.
	checkWant(t, p, 6, false, api.OK)
	checkWant(t, p, 6, true, api.OK)
	checkScore(t, p, 6, 3*65536)
}

func TestWantNoMore(t *testing.T) {
	p := with(t, [2]int{1, 2}, [2]int{2, 3})
	for range 2 {
		checkWant(t, p, 1, false, api.OK)
		checkScore(t, p, 1, 2*65536)
		checkNext(t, p, 2)
	}
	for range 2 {
		checkWant(t, p, 2, false, api.OK)
		checkScore(t, p, 2, 3*65536)
		checkNext(t, p, 0)
	}
	checkWant(t, p, 1, true, api.OK)
	checkNext(t, p, 1)
}

func TestNextOfNoneThatWants(t *testing.T) {
	p := New()
	checkNext(t, p, 0)
	for _, id := range []int{3, 1, 2} {
		checkAdd(t, p, id, 1, api.OK)
		checkNext(t, p, 0)
		checkSent(t, p, id, 1, api.OK)
		checkNext(t, p, 0)
	}
	checkWant(t, p, 2, true, api.OK)
	checkDrop(t, p, 2, api.OK)
	checkNext(t, p, 0)
}

func TestNextOfEqualScores(t *testing.T) {
	for _, sent := range []int{0, 1, api.MaxTime} {
		p := with(t, [2]int{api.MaxWord, sent}, [2]int{9, sent}, [2]int{4, sent}, [2]int{12, sent}, [2]int{10, sent})
		checkTurns(t, p, 4, 9, 10, 12, api.MaxWord)
	}
}

func TestNextOfManyEqualScores(t *testing.T) {
	p := full(t)
	var all []int
	for i := range 100 {
		checkWant(t, p, 100-i, true, api.OK)
		checkNext(t, p, 100-i)
		all = append(all, i+1)
	}
	for range 50 {
		checkNext(t, p, 1)
	}
	checkTurns(t, p, all...)
}

func TestNextOfDifferentScores(t *testing.T) {
	p := with(t, [2]int{1, 9}, [2]int{2, 8}, [2]int{3, 1}, [2]int{4, 8}, [2]int{5, 0}, [2]int{6, 2})
	checkTurns(t, p, 5, 3, 6, 2, 4, 1)
}

// Each gets its part: of two that want always, the one of weight 3 gets three times as much.
func TestNextByWeight(t *testing.T) {
	p := New()
	checkAdd(t, p, 1, 1, api.OK)
	checkAdd(t, p, 2, 3, api.OK)
	checkWant(t, p, 1, true, api.OK)
	checkWant(t, p, 2, true, api.OK)
	got := map[int]int{}
	for range 400 {
		id, ok := p.Next()
		if !ok {
			t.Fatal("Next: none")
		}
		got[id]++
		checkSent(t, p, id, 10, api.OK)
	}
	if got[1] != 100 || got[2] != 300 {
		t.Errorf("turns: got %v, want 100 and 300", got)
	}
}

func TestSent(t *testing.T) {
	p := New()
	checkAdd(t, p, 1, 1, api.OK)
	checkSent(t, p, 1, 0, api.OK)
	checkScore(t, p, 1, 0)
	checkSent(t, p, 1, 1, api.OK)
	checkScore(t, p, 1, 65536)
	checkSent(t, p, 1, 0, api.OK)
	checkScore(t, p, 1, 65536)
	checkSent(t, p, 1, api.MaxTime, api.OK)
	checkScore(t, p, 1, 65_536_065_536)
	checkSent(t, p, 1, api.MaxTime-1, api.OK)
	checkScore(t, p, 1, 131_072_000_000)
}

// It grows whether it wants or not, and wants thereafter as it did.
func TestSentOfOneThatWantsOrNot(t *testing.T) {
	p := with(t, [2]int{1, 0}, [2]int{2, 0})
	checkSent(t, p, 1, 1, api.OK)
	checkNext(t, p, 2)
	checkSent(t, p, 2, 2, api.OK)
	checkNext(t, p, 1)
	checkWant(t, p, 1, false, api.OK)
	checkSent(t, p, 1, 5, api.OK)
	checkNext(t, p, 2)
	checkWant(t, p, 1, true, api.OK)
	checkNext(t, p, 2)
	checkTurns(t, p, 2, 1)
}

func TestSentErrors(t *testing.T) {
	p := with(t, [2]int{1, 2}, [2]int{2, 3})
	for _, n := range noSent {
		checkSent(t, p, 1, n, api.ErrRange)
		checkNext(t, p, 1)
		// That it is not there is told ahead of what is wrong with the number.
		checkSent(t, p, 3, n, api.ErrNone)
		for _, id := range noIDs {
			checkSent(t, p, id, n, api.ErrNone)
		}
	}
	for _, n := range []int{0, 1, api.MaxTime} {
		checkSent(t, p, 3, n, api.ErrNone)
	}
	checkTurns(t, p, 1, 2)
}

func TestSentRoundsDown(t *testing.T) {
	for _, c := range []struct{ weight, n, want int }{
		{1, 1, 65536}, {2, 1, 32768}, {3, 1, 21845}, {3, 2, 43690}, {3, 3, 65536}, {7, 1, 9362}, {7, 5, 46811},
		{100, 1, 655}, {100, 99, 64880}, {255, 1, 257}, {255, 254, 65278}, {256, 1, 256}, {256, 3, 768},
		{3, api.MaxTime, 21_845_333_333}, {7, api.MaxTime, 9_362_285_714}, {256, api.MaxTime, 256_000_000},
	} {
		p := New()
		checkAdd(t, p, 1, c.weight, api.OK)
		checkSent(t, p, 1, c.n, api.OK)
		checkScore(t, p, 1, c.want)
		checkSent(t, p, 1, c.n, api.OK)
		checkScore(t, p, 1, 2*c.want)
	}
}

// Three times a third, each rounded down, is less than the whole.
func TestSentRoundsEachDown(t *testing.T) {
	p := New()
	checkAdd(t, p, 1, 1, api.OK)
	checkAdd(t, p, 2, 3, api.OK)
	checkAdd(t, p, 3, 3, api.OK)
	checkSent(t, p, 1, 1, api.OK)
	checkSent(t, p, 2, 3, api.OK)
	for range 3 {
		checkSent(t, p, 3, 1, api.OK)
	}
	for _, id := range []int{3, 2, 1} {
		checkWant(t, p, id, true, api.OK)
	}
	checkTurns(t, p, 3, 1, 2)
}

// put gives one a score that would take millions of calls.
func put(p *Picker, id, score int) {
	x := p.ids[id]
	x.score = score
	p.ids[id] = x
}

func TestSentUpToTheTop(t *testing.T) {
	for _, c := range []struct{ from, weight, n, want int }{
		{top - 65537, 1, 1, top - 1}, {top - 65536, 1, 1, top}, {top - 65535, 1, 1, top}, {top - 1, 1, 1, top},
		{top - 1, 1, 0, top - 1}, {top, 1, 0, top}, {top, 1, 1, top}, {top, 1, api.MaxTime, top}, {top, 256, 1, top},
		{top - 257, 256, 1, top - 1}, {top - 256, 256, 1, top}, {top - 255, 256, 1, top},
		{top - 21846, 3, 1, top - 1}, {top - 21845, 3, 1, top}, {top - 21844, 3, 1, top},
		{top - 65_536_000_001, 1, api.MaxTime, top - 1}, {top - 65_536_000_000, 1, api.MaxTime, top},
	} {
		p := New()
		checkAdd(t, p, 1, c.weight, api.OK)
		put(p, 1, c.from)
		checkSent(t, p, 1, c.n, api.OK)
		checkScore(t, p, 1, c.want)
	}
}

// From 0 on, by calls alone: 2^46 of weight 1 are the top, and behind it one stays.
func TestSentAllTheWay(t *testing.T) {
	p := New()
	checkAdd(t, p, 2, 1, api.OK)
	const whole, rest = (1 << 46) / api.MaxTime, (1 << 46) % api.MaxTime
	for range whole {
		if p.Sent(2, api.MaxTime) != nil {
			t.Fatal("Sent: an error")
		}
	}
	checkSent(t, p, 2, rest-1, api.OK)
	checkWant(t, p, 2, true, api.OK)
	checkAdd(t, p, 1, 1, api.OK)
	checkAdd(t, p, 3, 1, api.OK)
	// 1 and 3 have what 2 has, one short of the top.
	checkSent(t, p, 3, 1, api.OK)
	checkWant(t, p, 3, true, api.OK)
	checkNext(t, p, 2)
	for range 3 {
		checkSent(t, p, 2, api.MaxTime, api.OK)
		checkNext(t, p, 2)
	}
	checkSent(t, p, 1, api.MaxTime, api.OK)
	checkWant(t, p, 1, true, api.OK)
	checkTurns(t, p, 1, 2, 3)
}

// What is added, or wants anew, while the least is at the top, is there too.
func TestTopIsHandedOn(t *testing.T) {
	p := New()
	checkAdd(t, p, 5, 1, api.OK)
	checkAdd(t, p, 4, 1, api.OK)
	put(p, 5, top)
	checkWant(t, p, 5, true, api.OK)
	checkAdd(t, p, 3, 1, api.OK)
	checkScore(t, p, 3, top)
	checkWant(t, p, 4, true, api.OK)
	checkScore(t, p, 4, top)
	checkSent(t, p, 3, api.MaxTime, api.OK)
	checkWant(t, p, 3, true, api.OK)
	checkTurns(t, p, 3, 4, 5)
}

func TestTwoAreApart(t *testing.T) {
	a, b := with(t, [2]int{1, 2}, [2]int{2, 3}), with(t, [2]int{2, 1})
	checkAdd(t, b, 1, 1, api.OK)
	checkDrop(t, a, 1, api.OK)
	checkNext(t, b, 2)
	checkSent(t, b, 2, 9, api.OK)
	checkScore(t, a, 2, 3*65536)
	checkWant(t, b, 2, false, api.OK)
	checkNext(t, a, 2)
	checkNext(t, b, 0)
}

// model has its ids in a list, sorted, and reckons without a bound; it says what a step does by
// the words of the chapter.
type model []entry

type entry struct {
	id, weight int
	score      *big.Int
	wants      bool
}

func (m model) at(id int) int {
	return slices.IndexFunc(m, func(e entry) bool { return e.id == id })
}

// next is where the one stands whose turn it is; -1: none.
func (m model) next() int {
	best := -1
	for i, e := range m {
		if e.wants && (best < 0 || e.score.Cmp(m[best].score) < 0) {
			best = i
		}
	}
	return best
}

func (m model) least() *big.Int {
	if i := m.next(); i >= 0 {
		return m[i].score
	}
	return new(big.Int)
}

func (m *model) add(id, weight int) api.Errno {
	switch {
	case id < 1 || id > 2147483647 || weight < 1 || weight > 256:
		return api.ErrRange
	case m.at(id) >= 0:
		return api.ErrClash
	case len(*m) == 100:
		return api.ErrFull
	}
	*m = append(*m, entry{id: id, weight: weight, score: m.least()})
	slices.SortFunc(*m, func(a, b entry) int { return a.id - b.id })
	return api.OK
}

func (m model) want(i int, yes bool) {
	if least := m.least(); yes && !m[i].wants && m[i].score.Cmp(least) < 0 {
		m[i].score = least
	}
	m[i].wants = yes
}

func (m model) sent(i, n int) api.Errno {
	if n < 0 || n > 1000000 {
		return api.ErrRange
	}
	grown := new(big.Int).Mul(big.NewInt(int64(n)), big.NewInt(65536))
	grown.Div(grown, big.NewInt(int64(m[i].weight)))
	grown.Add(grown, m[i].score)
	if grown.Cmp(big.NewInt(top)) > 0 {
		grown.SetInt64(top)
	}
	m[i].score = grown
	return api.OK
}

func (m *model) step(kind, id, n int) api.Errno {
	i := m.at(id)
	switch {
	case kind == 0:
		return m.add(id, n)
	case i < 0:
		return api.ErrNone
	case kind == 1:
		*m = slices.Delete(*m, i, i+1)
	case kind == 2:
		m.want(i, n%3 != 0)
	default:
		return m.sent(i, n)
	}
	return api.OK
}

// play does a step, and holds what comes of it against the model.
func play(t *testing.T, p *Picker, m *model, kind, id, n int) api.Errno {
	t.Helper()
	want := m.step(kind, id, n)
	switch kind {
	case 0:
		checkAdd(t, p, id, n, want)
	case 1:
		checkDrop(t, p, id, want)
	case 2:
		checkWant(t, p, id, n%3 != 0, want)
	default:
		checkSent(t, p, id, n, want)
	}
	next := 0
	if i := m.next(); i >= 0 {
		next = (*m)[i].id
	}
	checkNext(t, p, next)
	return want
}

// drain drops them turn by turn, so that the order of all that want is asked.
func drain(t *testing.T, p *Picker, m *model) {
	t.Helper()
	for i := m.next(); i >= 0; i = m.next() {
		play(t, p, m, 1, (*m)[i].id, 0)
	}
	for _, e := range slices.Clone(*m) {
		play(t, p, m, 1, e.id, 0)
	}
}

func TestManySteps(t *testing.T) {
	seed := uint64(11)
	roll := func(n int) int {
		seed = seed*6364136223846793005 + 1442695040888963407
		return int(seed>>33) % n
	}
	wild := []int{math.MinInt, -1, 0, 1, 255, 256, 257, api.MaxTime, api.MaxTime + 1, api.MaxWord, api.MaxWord + 1, math.MaxInt}
	told := map[[2]int]int{}
	for round := range 150 {
		p, m := New(), &model{}
		spread := []int{3, 8, 130}[round%3]
		steps := 100 + 4*spread
		if round%2 == 1 {
			play(t, p, m, 0, 1, 256)
			put(p, 1, top-2_000_000)
			(*m)[0].score = big.NewInt(top - 2_000_000)
			play(t, p, m, 2, 1, 1)
		}
		for range steps {
			kind, id, n := []int{0, 0, 0, 0, 1, 2, 2, 2, 3, 3, 3}[roll(11)], 1+roll(spread), 1+roll(256)
			switch roll(20) {
			case 0:
				id = wild[roll(len(wild))]
			case 1:
				n = wild[roll(len(wild))]
			}
			told[[2]int{kind, int(play(t, p, m, kind, id, n))}]++
		}
		drain(t, p, m)
		if t.Failed() {
			t.Fatalf("round %d", round)
		}
	}
	for kind, l := range [][]api.Errno{
		{api.OK, api.ErrRange, api.ErrClash, api.ErrFull}, {api.OK, api.ErrNone}, {api.OK, api.ErrNone}, {api.OK, api.ErrNone, api.ErrRange},
	} {
		for _, e := range l {
			if told[[2]int{kind, int(e)}] == 0 {
				t.Errorf("no step of kind %d came to %v", kind, e)
			}
		}
	}
}
