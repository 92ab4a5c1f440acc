package flow

import (
	"math"
	"math/big"
	"testing"

	"tollgate/api"
	"tollgate/plain"
)

const most = api.MaxWindow

// below and above are numbers that no window may have at New.
var (
	below = []int{-1, -2, -most, -most - 1, math.MinInt32, math.MinInt + 1, math.MinInt}
	above = []int{most + 1, most + 2, 2 * most, math.MaxUint32, math.MaxUint32 + 1, math.MaxInt - 1, math.MaxInt}
)

// made gives a window of a number, that may be below 0.
func made(t *testing.T, n int) *Window {
	t.Helper()
	w, err := New(max(n, 0))
	if err != nil {
		t.Fatalf("New(%d): %v", max(n, 0), err)
	}
	for n < 0 {
		step := min(-n, most)
		checkErr(t, "Shift", w.Shift(step, 0), api.OK)
		n += step
	}
	return w
}

func checkErr(t *testing.T, what string, err error, want api.Errno) {
	t.Helper()
	if plain.Told(err) != want {
		t.Errorf("%s: got %v, want %v", what, err, want)
	}
}

// checkLeft asks twice, as asking changes nothing.
func checkLeft(t *testing.T, w *Window, want int) {
	t.Helper()
	for range 2 {
		if got := w.Left(); got != want {
			t.Errorf("Left: got %d, want %d", got, want)
		}
	}
}

func checkTake(t *testing.T, w *Window, n int, want api.Errno, left int) {
	t.Helper()
	checkErr(t, "Take", w.Take(n), want)
	checkLeft(t, w, left)
}

func checkGive(t *testing.T, w *Window, n int, want api.Errno, left int) {
	t.Helper()
	checkErr(t, "Give", w.Give(n), want)
	checkLeft(t, w, left)
}

func checkShift(t *testing.T, w *Window, old, now int, want api.Errno, left int) {
	t.Helper()
	checkErr(t, "Shift", w.Shift(old, now), want)
	checkLeft(t, w, left)
}

func checkDue(t *testing.T, left, full, want int) {
	t.Helper()
	if got := Due(left, full); got != want {
		t.Errorf("Due(%d, %d): got %d, want %d", left, full, got, want)
	}
}

func TestNew(t *testing.T) {
	for _, n := range []int{0, 1, 2, api.Window, most - 1, most} {
		w, err := New(n)
		if w == nil || err != nil {
			t.Fatalf("New(%d): got %v %v", n, w, err)
		}
		checkLeft(t, w, n)
	}
}

func TestNewRange(t *testing.T) {
	for _, l := range [][]int{below, above} {
		for _, n := range l {
			w, err := New(n)
			if w != nil || plain.Told(err) != api.ErrRange {
				t.Errorf("New(%d): got %v %v, want ErrRange", n, w, err)
			}
		}
	}
}

func TestTake(t *testing.T) {
	w := made(t, 10)
	checkTake(t, w, 0, api.OK, 10)
	checkTake(t, w, 1, api.OK, 9)
	checkTake(t, w, 10, api.ErrFlow, 9)
	checkTake(t, w, 9, api.OK, 0)
	checkTake(t, w, 0, api.OK, 0)
	checkTake(t, w, 1, api.ErrFlow, 0)
}

func TestTakeAll(t *testing.T) {
	for _, n := range []int{0, 1, api.Window, most - 1, most} {
		w := made(t, n)
		checkTake(t, w, n+1, api.ErrFlow, n)
		checkTake(t, w, math.MaxInt, api.ErrFlow, n)
		checkTake(t, w, n, api.OK, 0)
		checkTake(t, w, 1, api.ErrFlow, 0)
	}
}

// No number above MaxWindow is out of Take's range: it is more than there is.
func TestTakeAbove(t *testing.T) {
	for _, n := range above {
		checkTake(t, made(t, most), n, api.ErrFlow, most)
		checkTake(t, made(t, -5), n, api.ErrFlow, -5)
	}
}

func TestTakeRange(t *testing.T) {
	for _, left := range []int{-most, -1, 0, 1, most} {
		w := made(t, left)
		for _, n := range below {
			checkTake(t, w, n, api.ErrRange, left)
		}
	}
}

// A window below 0 has fewer than 0.
func TestTakeBelow(t *testing.T) {
	for _, left := range []int{-1, -7, -most, -3 * most} {
		w := made(t, left)
		for _, n := range []int{0, 1, 7, most, math.MaxInt} {
			checkTake(t, w, n, api.ErrFlow, left)
		}
	}
	w := made(t, -1)
	checkGive(t, w, 1, api.OK, 0)
	checkTake(t, w, 0, api.OK, 0)
}

func TestGive(t *testing.T) {
	w := made(t, 0)
	checkGive(t, w, 1, api.OK, 1)
	checkGive(t, w, most-1, api.OK, most)
	checkGive(t, w, 1, api.ErrOver, most)
	checkGive(t, w, most, api.ErrOver, most)
	checkGive(t, made(t, 0), most, api.OK, most)
	checkGive(t, made(t, 1), most, api.ErrOver, 1)
	checkGive(t, made(t, most-1), 1, api.OK, most)
	checkGive(t, made(t, most-1), 2, api.ErrOver, most-1)
}

func TestGiveBelow(t *testing.T) {
	w := made(t, -5)
	checkGive(t, w, 2, api.OK, -3)
	checkGive(t, w, 3, api.OK, 0)
	checkGive(t, made(t, -1), most, api.OK, most-1)
	checkGive(t, made(t, -most), most, api.OK, 0)
	checkGive(t, made(t, -2*most), most, api.OK, -most)
}

// A number that is out of range is told so though it would be too much as well.
func TestGiveRange(t *testing.T) {
	for _, left := range []int{-3 * most, -1, 0, 1, most} {
		w := made(t, left)
		checkGive(t, w, 0, api.ErrRange, left)
		for _, l := range [][]int{below, above} {
			for _, n := range l {
				checkGive(t, w, n, api.ErrRange, left)
			}
		}
	}
}

func TestShift(t *testing.T) {
	w := made(t, 10)
	checkShift(t, w, 3, 7, api.OK, 14)
	checkShift(t, w, 7, 3, api.OK, 10)
	checkShift(t, w, 10, 0, api.OK, 0)
	checkShift(t, w, 1, 0, api.OK, -1)
	checkShift(t, w, 0, 0, api.OK, -1)
	checkShift(t, w, most, most, api.OK, -1)
	checkShift(t, w, most, 0, api.OK, -most-1)
	checkShift(t, w, most, 0, api.OK, -2*most-1)
	checkShift(t, w, 0, most, api.OK, -most-1)
	checkShift(t, w, 0, 1, api.OK, -most)
}

func TestShiftOver(t *testing.T) {
	checkShift(t, made(t, 0), 0, most, api.OK, most)
	checkShift(t, made(t, 1), 0, most, api.ErrOver, 1)
	checkShift(t, made(t, 1), 1, most, api.OK, most)
	checkShift(t, made(t, most-1), 5, 6, api.OK, most)
	checkShift(t, made(t, most-1), 5, 7, api.ErrOver, most-1)
	w := made(t, most)
	checkShift(t, w, 0, 1, api.ErrOver, most)
	checkShift(t, w, most-1, most, api.ErrOver, most)
	checkShift(t, w, 0, most, api.ErrOver, most)
	checkShift(t, w, most, most, api.OK, most)
	checkShift(t, w, most, 0, api.OK, 0)
}

// Numbers whose difference would do are refused all the same, and ahead of ErrOver.
func TestShiftRange(t *testing.T) {
	for _, left := range []int{-3 * most, -1, 0, 1, most} {
		w := made(t, left)
		for _, l := range [][]int{below, above} {
			for _, n := range l {
				for _, other := range []int{0, 1, most, n, -1, most + 1, math.MinInt, math.MaxInt} {
					checkShift(t, w, n, other, api.ErrRange, left)
					checkShift(t, w, other, n, api.ErrRange, left)
				}
			}
		}
	}
}

// Far below 0 it is still reckoned as it is.
func TestShiftFarDown(t *testing.T) {
	w := made(t, 0)
	for i := range 10_000 {
		checkShift(t, w, most, 0, api.OK, -(i+1)*most)
	}
	for i := range 10_000 {
		checkGive(t, w, most, api.OK, (i+1-10_000)*most)
	}
}

func TestTwoAreApart(t *testing.T) {
	a, b := made(t, 5), made(t, 5)
	checkTake(t, a, 2, api.OK, 3)
	checkLeft(t, b, 5)
	checkShift(t, b, 9, 0, api.OK, -4)
	checkGive(t, a, 4, api.OK, 7)
	checkLeft(t, b, -4)
}

func TestDue(t *testing.T) {
	for _, c := range []struct{ left, full, want int }{
		{0, 10, 10}, {3, 10, 7}, {4, 10, 6}, {5, 10, 0}, {6, 10, 0}, {10, 10, 0}, {11, 10, 0},
		{0, 11, 11}, {4, 11, 7}, {5, 11, 0}, {6, 11, 0}, {11, 11, 0}, {12, 11, 0},
		{-1, 10, 11}, {-10, 10, 20}, {-1, 11, 12}, {-most, most, 2 * most},
		{0, 0, 0}, {1, 0, 0}, {-1, 0, 1}, {0, 1, 0}, {1, 1, 0}, {-1, 1, 2},
		{0, 2, 2}, {1, 2, 0}, {0, 3, 3}, {1, 3, 0}, {2, 3, 0},
		{999, api.Window, 1001}, {1000, api.Window, 0}, {1001, api.Window, 0},
		{most/2 - 1, most, most - most/2 + 1}, {most / 2, most, 0}, {most, most, 0},
	} {
		checkDue(t, c.left, c.full, c.want)
	}
}

// Half of a number below 0 is rounded down too.
func TestDueOfLessThanNothing(t *testing.T) {
	for _, c := range []struct{ left, full, want int }{
		{-1, -1, 0}, {-2, -1, 1}, {0, -1, 0},
		{-1, -2, 0}, {-2, -2, 0}, {-3, -2, 1},
		{-2, -3, 0}, {-3, -3, 0}, {-4, -3, 1}, {-1, -3, 0},
		{-5, -10, 0}, {-6, -10, -4}, {-6, -11, 0}, {-7, -11, -4}, {-12, -11, 1},
	} {
		checkDue(t, c.left, c.full, c.want)
	}
}

// wrapped is what Due says, reckoned without a bound, and then brought into the 64 bits of an int.
func wrapped(left, full int) int {
	l, f := big.NewInt(int64(left)), big.NewInt(int64(full))
	half := new(big.Int).Rsh(f, 1)
	if l.Cmp(half) >= 0 {
		return 0
	}
	gap := new(big.Int).Sub(f, l)
	gap.And(gap, new(big.Int).SetUint64(math.MaxUint64))
	return int(gap.Uint64())
}

func TestDueAtTheEnds(t *testing.T) {
	checkDue(t, 0, math.MaxInt, math.MaxInt)
	checkDue(t, math.MaxInt/2, math.MaxInt, 0)
	checkDue(t, math.MaxInt/2-1, math.MaxInt, math.MaxInt/2+2)
	checkDue(t, math.MaxInt, math.MaxInt, 0)
	checkDue(t, math.MaxInt, math.MinInt, 0)
	checkDue(t, math.MinInt+1, 0, math.MaxInt)
	checkDue(t, math.MinInt, -1, math.MaxInt)
	checkDue(t, math.MinInt, math.MinInt, 0)
	checkDue(t, math.MinInt/2, math.MinInt, 0)
	checkDue(t, math.MinInt/2-1, math.MinInt, math.MinInt/2+1)
	// Where the difference is more than an int can be, it is wrapped round.
	checkDue(t, math.MinInt, 0, math.MinInt)
	checkDue(t, -1, math.MaxInt, math.MinInt)
	checkDue(t, math.MinInt, math.MaxInt, -1)
	var ends []int
	for _, n := range []int{math.MinInt, math.MinInt / 2, -most, 0, most, math.MaxInt / 2, math.MaxInt} {
		for d := -3; d <= 3; d++ {
			ends = append(ends, n+d)
		}
	}
	for _, left := range ends {
		for _, full := range ends {
			checkDue(t, left, full, wrapped(left, full))
		}
	}
}

func TestDueNear(t *testing.T) {
	for full := -40; full <= 40; full++ {
		for left := -60; left <= 60; left++ {
			checkDue(t, left, full, wrapped(left, full))
		}
	}
}

// model reckons without a bound, and says what a step does by the words of the chapter.
type model struct{ left *big.Int }

func (m *model) step(kind, a, b int) api.Errno {
	top, n := big.NewInt(most), big.NewInt(int64(a))
	switch kind {
	case 0:
		if n.Sign() < 0 {
			return api.ErrRange
		}
		if m.left.Cmp(n) < 0 {
			return api.ErrFlow
		}
		n.Neg(n)
	case 1:
		if n.Sign() <= 0 || n.Cmp(top) > 0 {
			return api.ErrRange
		}
	default:
		now := big.NewInt(int64(b))
		if n.Sign() < 0 || now.Sign() < 0 || n.Cmp(top) > 0 || now.Cmp(top) > 0 {
			return api.ErrRange
		}
		n.Sub(now, n)
	}
	sum := new(big.Int).Add(m.left, n)
	if sum.Cmp(top) > 0 {
		return api.ErrOver
	}
	m.left = sum
	return api.OK
}

func TestManySteps(t *testing.T) {
	seed := uint64(7)
	next := func(n int) int {
		seed = seed*6364136223846793005 + 1442695040888963407
		return int(seed>>33) % n
	}
	bases := []int{0, 0, 0, 100, 100, most / 2, most - 100, most, most, math.MinInt + 5, math.MaxInt - 5}
	number := func() int { return bases[next(len(bases))] + next(11) - 5 }
	told := map[[2]int]int{}
	for round := range 200 {
		first := []int{0, 50, api.Window, most}[round%4]
		w, m := made(t, first), &model{big.NewInt(int64(first))}
		for range 200 {
			kind, a, b := next(3), number(), number()
			want := m.step(kind, a, b)
			told[[2]int{kind, int(want)}]++
			left := int(m.left.Int64())
			switch kind {
			case 0:
				checkTake(t, w, a, want, left)
			case 1:
				checkGive(t, w, a, want, left)
			default:
				checkShift(t, w, a, b, want, left)
			}
		}
		if t.Failed() {
			t.Fatalf("round %d", round)
		}
	}
	for _, c := range [][2]api.Errno{
		{0, api.OK}, {0, api.ErrRange}, {0, api.ErrFlow}, {1, api.OK}, {1, api.ErrRange}, {1, api.ErrOver},
		{2, api.OK}, {2, api.ErrRange}, {2, api.ErrOver},
	} {
		if told[[2]int{int(c[0]), int(c[1])}] == 0 {
			t.Errorf("no step of kind %d came to %v", int(c[0]), c[1])
		}
	}
}
