package pool

import (
	"slices"
	"testing"

	"tollgate/api"
)

// model has all connections in one list: each one that comes back goes to its end, so that the Idle
// ones stand as they came back. It says what a step does by the words of the chapter.
type model struct {
	many, given, now int
	all              []thing
}

type thing struct {
	id, at int
	to     string
	busy   bool
}

func (m *model) count(is func(x thing) bool) int {
	n := 0
	for _, x := range m.all {
		if is(x) {
			n++
		}
	}
	return n
}

func (m *model) busy() int { return m.count(func(x thing) bool { return x.busy }) }

func (m *model) idle(to string) int {
	return m.count(func(x thing) bool { return !x.busy && x.to == to })
}

func (m *model) take(to string) (int, bool, api.Errno) {
	if to == "" || to == "a b" {
		return 0, false, api.ErrSyntax
	}
	for i := len(m.all) - 1; i >= 0; i-- {
		if x := &m.all[i]; !x.busy && x.to == to {
			x.busy = true
			return x.id, false, api.OK
		}
	}
	if m.busy() == m.many {
		return 0, false, api.ErrFull
	}
	if len(m.all) == m.many {
		i := slices.IndexFunc(m.all, func(x thing) bool { return !x.busy })
		m.all = slices.Delete(m.all, i, i+1)
	}
	m.given++
	m.all = append(m.all, thing{id: m.given, to: to, busy: true})
	return m.given, true, api.OK
}

func (m *model) back(id int, good bool) bool {
	i := slices.IndexFunc(m.all, func(x thing) bool { return x.busy && x.id == id })
	if i < 0 {
		return false
	}
	to := m.all[i].to
	m.all = slices.Delete(m.all, i, i+1)
	if good {
		m.all = append(m.all, thing{id: id, at: m.now, to: to})
	}
	return true
}

func (m *model) tick(now, old int) (gone []int, told api.Errno) {
	switch {
	case now < 0 || now > 1000000 || old < 0 || old > 1000000:
		return nil, api.ErrRange
	case now < m.now:
		return nil, api.ErrState
	}
	m.now = now
	var rest []thing
	for _, x := range m.all {
		if !x.busy && x.at < now-old {
			gone = append(gone, x.id)
		} else {
			rest = append(rest, x)
		}
	}
	m.all = rest
	slices.Sort(gone)
	return gone, api.OK
}

// dice rolls the same numbers each time.
type dice uint64

func (d *dice) roll(n int) int {
	*d = *d*6364136223846793005 + 1442695040888963407
	return int(*d>>33) % n
}

// play does a step, holds what comes of it against the model, and tells what was done.
func play(t *testing.T, p *Pool, m *model, d *dice) string {
	t.Helper()
	switch d.roll(8) {
	case 0, 1, 2:
		to := []string{"a", "b", "c", "a", "b", "c", "a", "b", "c", "", "a b"}[d.roll(11)]
		before := len(m.all)
		id, fresh, told := m.take(to)
		checkTake(t, p, to, id, fresh, told)
		switch {
		case told != api.OK:
			return "Take: " + told.Error()
		case !fresh:
			return "Take: again"
		case len(m.all) == before:
			return "Take: one went"
		}
		return "Take: new"
	case 3, 4, 5:
		id, good := m.given-d.roll(m.many+3)+1, d.roll(4) > 0
		switch {
		case !m.back(id, good):
			checkNoBack(t, p, id)
			return "Back: ErrNone"
		case good:
			checkGood(t, p, id)
			return "Back: good"
		}
		checkBad(t, p, id)
		return "Back: not good"
	}
	now, old := m.now+d.roll(5)-1, d.roll(12)-1
	gone, told := m.tick(now, old)
	if told != api.OK {
		checkNoTick(t, p, now, old, told)
		return "Tick: " + told.Error()
	}
	checkTick(t, p, now, old, gone...)
	return []string{"Tick: none", "Tick: one", "Tick: several"}[min(len(gone), 2)]
}

func TestManySteps(t *testing.T) {
	d, done := dice(18), map[string]int{}
	for round := range 400 {
		many := 1 + round%mostMany
		p, m := made(t, many), &model{many: many}
		for range 300 {
			done[play(t, p, m, &d)]++
			checkCounts(t, p, m.idle("a"), m.idle("b"), m.idle("c"), m.busy())
			checkIdle(t, p, "d", 0)
			if n := p.Idle("a") + p.Idle("b") + p.Idle("c") + p.Busy(); n > many {
				t.Errorf("%d are there, of %d", n, many)
			}
		}
		if t.Failed() {
			t.Fatalf("round %d", round)
		}
	}
	for _, what := range []string{
		"Take: ErrSyntax", "Take: ErrFull", "Take: again", "Take: one went", "Take: new",
		"Back: ErrNone", "Back: good", "Back: not good",
		"Tick: ErrRange", "Tick: ErrState", "Tick: none", "Tick: one", "Tick: several",
	} {
		if done[what] < 100 {
			t.Errorf("%d steps only of %q", done[what], what)
		}
	}
}
