package store

import (
	"strings"
	"testing"

	"tollgate/api"
	"tollgate/plain"
)

// model has every request and reply that was kept, each with a number that counts the Puts; it says
// what a step does by the words of the chapter.
type model struct {
	puts int
	all  map[int]modelKept
}

type modelKept struct {
	r  api.Request
	a  api.Reply
	at int
}

func modelFirst(l []api.Field, name string) (string, bool) {
	for _, f := range l {
		if f.Name == name {
			return f.Value, true
		}
	}
	return "", false
}

func modelLife(a api.Reply) int {
	v, ok := modelFirst(a.Fields, "cache")
	if !ok || len(v) < 5 || v[:4] != "max-" || len(v) > 11 || v[4] == '0' {
		return 0
	}
	n := 0
	for _, c := range []byte(v[4:]) {
		if c < '0' || c > '9' {
			return 0
		}
		n = 10*n + int(c-'0')
	}
	if n > 1000000 {
		return 0
	}
	return n
}

func modelToken(s string) bool {
	for _, c := range []byte(s) {
		if !strings.Contains(tokenBytes, one(int(c))) {
			return false
		}
	}
	return s != "" && len(s) <= 400
}

// modelValues are all of a name, each ended by a byte that stands in none.
func modelValues(r api.Request, name string) (s string) {
	for _, f := range r.Fields {
		if f.Name == name {
			s += f.Value + "\n"
		}
	}
	return s
}

func (k modelKept) fits(r api.Request) bool {
	if k.r.Host != r.Host || k.r.Path != r.Path {
		return false
	}
	vary, _ := modelFirst(k.a.Fields, "vary")
	for _, piece := range strings.Split(vary, ", ") {
		if modelToken(piece) && modelValues(k.r, piece) != modelValues(r, piece) {
			return false
		}
	}
	return true
}

func (m *model) put(r api.Request, a api.Reply, now int) (bool, api.Errno) {
	if now < 0 || now > 1000000 {
		return false, api.ErrRange
	}
	if r.Method != "GET" || a.Code != 200 || modelLife(a) <= 0 {
		return false, api.OK
	}
	for n, k := range m.all {
		if k.fits(r) {
			delete(m.all, n)
		}
	}
	m.puts++
	m.all[m.puts] = modelKept{r, a, now}
	if len(m.all) == 21 {
		first := m.puts
		for n := range m.all {
			first = min(first, n)
		}
		delete(m.all, first)
	}
	return true, api.OK
}

func (m *model) get(r api.Request, now int) (api.Reply, int, api.Errno) {
	if now < 0 || now > 1000000 {
		return api.Reply{}, 0, api.ErrRange
	}
	last := 0
	for n, k := range m.all {
		if r.Method == "GET" && k.fits(r) && k.at <= now && k.at+modelLife(k.a) > now {
			last = max(last, n)
		}
	}
	if last == 0 {
		return api.Reply{}, 0, api.ErrNone
	}
	return m.all[last].a, now - m.all[last].at, api.OK
}

func (m *model) drop(path string) (many int) {
	for n, k := range m.all {
		if k.r.Path == path {
			delete(m.all, n)
			many++
		}
	}
	return many
}

// roller gives numbers that look as if they were rolled, the same in each run.
func roller(seed uint64) func(n int) int {
	return func(n int) int {
		seed = seed*6364136223846793005 + 1442695040888963407
		return int(seed>>33) % n
	}
}

func rolledRequest(roll func(n int) int, paths int) api.Request {
	var pairs []string
	for range roll(4) {
		pairs = append(pairs, []string{"x", "y", "X", "*"}[max(roll(6)-2, 0)], []string{"1", "2", ""}[roll(3)])
	}
	r := get([]string{"h", "k"}[max(roll(6)-4, 0)], path(roll(paths)), pairs...)
	if roll(20) == 0 {
		r.Method = otherMethods[roll(len(otherMethods))]
	}
	return r
}

func rolledReply(roll func(n int) int, step int) api.Reply {
	a := api.Reply{Code: 200, Body: []byte(path(step))}
	add := func(name string, values ...string) {
		a.Fields = append(a.Fields, api.Field{Name: name, Value: values[roll(len(values))]})
	}
	for range roll(3) {
		add("vary", "x", "y", "x, y", "y, x", "x, X, x", "*", "x,y", "*, y", "", "x ", "z", "y, ")
	}
	if roll(30) > 0 {
		add("cache", "max-9", "max-30", "max-5", "max-100", "max-1000000", "max-1", "max-20", "max-50", "none", "max-0", "max-07")
	}
	if roll(4) == 0 {
		add("cache", "max-40", "none")
	}
	if roll(20) == 0 {
		a.Code = []int{404, 201, 199, 0, -200}[roll(5)]
	}
	return a
}

func playPut(t *testing.T, s *Store, m *model, r api.Request, a api.Reply, now int) (bool, api.Errno) {
	t.Helper()
	if got, want := Life(a), modelLife(a); got != want {
		t.Errorf("Life of %s: got %d, want %d", short(a), got, want)
	}
	want, e := m.put(r, a, now)
	if want {
		put(t, s, r, a, now)
	} else {
		refusePut(t, s, r, a, now, e)
	}
	return want, e
}

func playGet(t *testing.T, s *Store, m *model, r api.Request, now int) api.Errno {
	t.Helper()
	want, age, e := m.get(r, now)
	got, old, err := s.Get(r, now)
	if !sameReply(got, want) || old != age || plain.Told(err) != e {
		t.Errorf("Get of %s, %d: got %s %d %v, want %s %d %v", short(r), now, short(got), old, err, short(want), age, e)
	}
	return e
}

// Many steps, times that go on and back, few and many paths.
func TestManySteps(t *testing.T) {
	roll := roller(15)
	kept, found, dropped, most := map[bool]int{}, map[api.Errno]int{}, map[bool]int{}, 0
	for round := range 300 {
		paths := []int{1, 3, 30}[round%3]
		s, m, now := New(), &model{all: map[int]modelKept{}}, roll(40)
		for step := range 200 {
			now += max(roll(8)-5, 0)
			when := max(now-max(roll(40)-25, 0), 0)
			if roll(40) == 0 {
				when = noTimes[roll(len(noTimes))]
			}
			if roll(100) == 0 {
				p := path(roll(paths + 1))
				n := m.drop(p)
				checkDrop(t, s, p, n)
				dropped[n > 0]++
			}
			ok, e := playPut(t, s, m, rolledRequest(roll, paths), rolledReply(roll, step), when)
			if e == api.OK {
				kept[ok]++
			}
			for range 5 {
				found[playGet(t, s, m, rolledRequest(roll, paths), when+roll(3))]++
			}
			checkLen(t, s, len(m.all))
			most = max(most, s.Len())
		}
		if t.Failed() {
			t.Fatalf("round %d", round)
		}
	}
	if kept[true] < 1000 || kept[false] < 1000 || dropped[true] < 100 || dropped[false] < 10 || most != mostKept {
		t.Errorf("kept %v, dropped %v, at most %d", kept, dropped, most)
	}
	for _, e := range []api.Errno{api.OK, api.ErrNone, api.ErrRange} {
		if found[e] < 1000 {
			t.Errorf("only %d came to %v", found[e], e)
		}
	}
}

// Two stores of the same steps answer the same.
func TestSameStepsSameAnswers(t *testing.T) {
	one, other := roller(51), roller(51)
	a, b := New(), New()
	for step := range 2000 {
		_, _ = a.Put(rolledRequest(one, 5), rolledReply(one, step), step)
		_, _ = b.Put(rolledRequest(other, 5), rolledReply(other, step), step)
		checkSame(t, b, deep(a), "the same Put")
		if t.Failed() {
			t.FailNow()
		}
	}
}
