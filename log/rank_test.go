package log

import (
	"math"
	"slices"
	"testing"

	"tollgate/api"
)

// noParts are out of range for part, and for Top's many.
var noParts = []int{0, -1, -2, -50, -100, 101, 102, 1000, 1 << 32, 1<<32 + 50, math.MinInt, math.MinInt + 1, math.MaxInt}

// upTo gives 1 to n, mixed up.
func upTo(n int) (l []int) {
	for i := range n {
		l = append(l, (i*7919+n/2)%n+1)
	}
	return l
}

func TestRank(t *testing.T) {
	for _, c := range []struct {
		l          []int
		part, want int
	}{
		{[]int{40, 10, 30, 20}, 1, 10},
		{[]int{40, 10, 30, 20}, 25, 10},
		{[]int{40, 10, 30, 20}, 26, 20},
		{[]int{40, 10, 30, 20}, 50, 20},
		{[]int{40, 10, 30, 20}, 51, 30},
		{[]int{40, 10, 30, 20}, 75, 30},
		{[]int{40, 10, 30, 20}, 76, 40},
		{[]int{40, 10, 30, 20}, 99, 40},
		{[]int{40, 10, 30, 20}, 100, 40},
		{[]int{3, 1, 2}, 33, 1},
		{[]int{3, 1, 2}, 34, 2},
		{[]int{3, 1, 2}, 50, 2},
		{[]int{3, 1, 2}, 66, 2},
		{[]int{3, 1, 2}, 67, 3},
		{[]int{2, 1}, 50, 1},
		{[]int{2, 1}, 51, 2},
		// Equal ones have a place each.
		{[]int{5, 1, 5, 5}, 25, 1},
		{[]int{5, 1, 5, 5}, 26, 5},
		{[]int{1, 1, 1, 9}, 75, 1},
		{[]int{1, 1, 1, 9}, 76, 9},
		// By what they are, not by their digits or how far they are from 0.
		{[]int{-1, -10, 9, 10, 0}, 20, -10},
		{[]int{-1, -10, 9, 10, 0}, 40, -1},
		{[]int{-1, -10, 9, 10, 0}, 60, 0},
		{[]int{-1, -10, 9, 10, 0}, 80, 9},
		{[]int{-1, -10, 9, 10, 0}, 100, 10},
		{[]int{math.MaxInt, 0, math.MinInt}, 1, math.MinInt},
		{[]int{math.MaxInt, 0, math.MinInt}, 50, 0},
		{[]int{math.MaxInt, 0, math.MinInt}, 100, math.MaxInt},
	} {
		checkRank(t, c.l, c.part, c.want)
	}
}

func TestRankOfOne(t *testing.T) {
	for _, n := range []int{0, 1, -1, 7, math.MinInt, math.MaxInt} {
		for part := 1; part <= 100; part++ {
			checkRank(t, []int{n}, part, n)
			checkRank(t, []int{n, n, n}, part, n)
		}
	}
}

// Of 1 to n the number is its place: the least with which so many hundredths are there.
func TestRankRounds(t *testing.T) {
	for _, n := range []int{1, 2, 3, 7, 10, 99, 100, 101, 150, 199, 200, 201, 333, 999, mostList} {
		l := upTo(n)
		for part := 1; part <= 100; part++ {
			place := 1
			for place*100 < part*n {
				place++
			}
			checkRank(t, l, part, place)
		}
	}
}

func TestRankWrong(t *testing.T) {
	for _, part := range noParts {
		for _, l := range [][]int{{1}, {3, 1, 2}, upTo(mostList)} {
			refuseRank(t, l, part, api.ErrRange)
		}
		// Ahead of what else may be wrong.
		refuseRank(t, nil, part, api.ErrRange)
		refuseRank(t, upTo(mostList+1), part, api.ErrRange)
	}
	for _, part := range []int{1, 2, 50, 99, 100} {
		refuseRank(t, nil, part, api.ErrNone)
		refuseRank(t, []int{}, part, api.ErrNone)
		checkRank(t, slices.Repeat([]int{4}, mostList), part, 4)
		for _, n := range []int{mostList + 1, mostList + 2, 5000} {
			refuseRank(t, slices.Repeat([]int{4}, n), part, api.ErrFull)
		}
	}
}
