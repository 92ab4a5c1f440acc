package limit

import (
	"math"
	"slices"
	"strconv"
	"testing"

	"tollgate/api"
)

// model keeps for each key all that was taken, and goes through the ticks one by one; it says what
// a step does by the words of the chapter.
type model struct {
	rate, burst int
	keys        []*taken
}

// taken has the key's first time, its last one, and how many were taken at each time.
type taken struct {
	key         string
	first, last int
	at          map[int]int
}

func (m *model) find(key string) *taken {
	for _, k := range m.keys {
		if k.key == key {
			return k
		}
	}
	return nil
}

func (m *model) left(k *taken, now int) int {
	if k == nil {
		return m.burst
	}
	left := m.burst - k.at[k.first]
	for tick := k.first + 1; tick <= now; tick++ {
		left += m.rate
		if left > m.burst {
			left = m.burst
		}
		left -= k.at[tick]
	}
	return left
}

func (m *model) wrong(k *taken, now, n int) api.Errno {
	switch {
	case n <= 0 || n > m.burst || now < 0 || now > 1000000:
		return api.ErrRange
	case k != nil && now < k.last:
		return api.ErrState
	case k == nil && len(m.keys) == 100:
		return api.ErrFull
	}
	if k != nil {
		k.last = now
	}
	return api.OK
}

func (m *model) ask(key string, now, n int) (bool, api.Errno) {
	k := m.find(key)
	if told := m.wrong(k, now, n); told != api.OK {
		return false, told
	}
	if m.left(k, now) < n {
		return false, api.OK
	}
	if k == nil {
		k = &taken{key: key, first: now, last: now, at: map[int]int{}}
		m.keys = append(m.keys, k)
	}
	k.at[now] += n
	return true, api.OK
}

func (m *model) look(key string, now int) (int, api.Errno) {
	k := m.find(key)
	if told := m.wrong(k, now, 1); told != api.OK {
		return 0, told
	}
	return m.left(k, now), api.OK
}

func (m *model) wait(key string, now, n int) (int, api.Errno) {
	k := m.find(key)
	if told := m.wrong(k, now, n); told != api.OK {
		return 0, told
	}
	ticks := 0
	for m.left(k, now+ticks) < n {
		ticks++
	}
	return ticks, api.OK
}

func (m *model) names() (l []string) {
	for _, k := range m.keys {
		l = append(l, k.key)
	}
	slices.Sort(l)
	return l
}

// play does a step, and holds what comes of it against the model.
func play(t *testing.T, l *Limit, m *model, kind int, key string, now, n int) api.Errno {
	t.Helper()
	switch kind {
	case 0:
		want, told := m.ask(key, now, n)
		checkAsk(t, l, key, now, n, want, told)
		return told
	case 1:
		want, told := m.look(key, now)
		checkLeft(t, l, key, now, want, told)
		return told
	}
	want, told := m.wait(key, now, n)
	checkWait(t, l, key, now, n, want, told)
	return told
}

func TestManySteps(t *testing.T) {
	seed := uint64(13)
	roll := func(n int) int {
		seed = seed*6364136223846793005 + 1442695040888963407
		return int(seed>>33) % n
	}
	wild := []int{math.MinInt, -1, 0, 1, most, most + 1, math.MaxInt}
	told := map[[2]int]int{}
	for round := range 240 {
		rate, burst, spread := 1+roll(5), 1+roll(30), []int{2, 5, 140}[round%3]
		l, m := made(t, rate, burst), &model{rate: rate, burst: burst}
		now := roll(20)
		for range 150 + 3*spread {
			kind, key, n := []int{0, 0, 0, 1, 2}[roll(5)], strconv.Itoa(roll(spread)), 1+roll(burst)
			now += max(roll(8)-5, 0)
			when := max(now-max(roll(30)-26, 0), 0)
			switch roll(30) {
			case 0:
				n = wild[roll(len(wild))]
			case 1:
				n = burst + 1
			case 2:
				when = []int{-1, most + 1, math.MinInt, math.MaxInt}[roll(4)]
			}
			told[[2]int{kind, int(play(t, l, m, kind, key, when, n))}]++
			checkKeys(t, l, m.names()...)
		}
		if t.Failed() {
			t.Fatalf("round %d", round)
		}
	}
	for kind := range 3 {
		for _, e := range []api.Errno{api.OK, api.ErrRange, api.ErrState, api.ErrFull} {
			if told[[2]int{kind, int(e)}] == 0 {
				t.Errorf("no step of kind %d came to %v", kind, e)
			}
		}
	}
}
