package gate

import (
	"bytes"
	"fmt"
	"math/rand"
	"slices"
	"strconv"
	"testing"

	"tollgate/api"
	"tollgate/fields"
	"tollgate/head"
	"tollgate/limit"
	"tollgate/line"
	"tollgate/plain"
	"tollgate/route"
	"tollgate/store"
)

// What becomes of a request.
const (
	comes = iota
	waits
	answered
	stopped
)

// one request of a model.
type one struct {
	stream, state int
	fields        []api.Field
	body          []byte
	asked         api.Request
	to            string
	ask           []byte
	id, at        int
	reply         api.Reply // how it was answered
}

// model has all requests in one list, and says what a step does by the words of the chapter.
type model struct {
	routes []api.Route
	limit  *limit.Limit
	store  *store.Store
	now    int
	all    []*one
	ids    int
	log    []api.Entry
	seen   map[string]int
}

func (m *model) in(state int) (l []*one) {
	for _, q := range m.all {
		if q.state == state {
			l = append(l, q)
		}
	}
	return l
}

func (m *model) head(q *one, l []api.Field, end bool) {
	switch {
	case q.state == waits:
		q.state = stopped
		m.seen["head of a job"]++
	case q.fields == nil:
		q.fields = l
	case end:
		m.seen["second head, end"]++
	default:
		q.state = stopped
		m.seen["second head"]++
	}
	if end && q.state == comes {
		m.whole(q)
	}
}

func (m *model) data(q *one, b []byte, end bool) {
	if q.state == waits {
		q.state = stopped
		m.seen["body of a job"]++
		return
	}
	q.body = append(q.body, b...)
	if end {
		m.whole(q)
	}
}

func (m *model) whole(q *one) {
	q.at = m.now
	code := func() int {
		if len(q.body) > 8000 {
			return 413
		}
		var err error
		if q.asked, err = fields.Ask(q.fields, q.body); err != nil {
			return 400
		}
		if ok, err := m.limit.Ask(q.asked.Host, m.now, 1); err != nil || !ok {
			return 429
		}
		to, rest, err := route.Rest(m.routes, q.asked.Host, q.asked.Path)
		if err != nil {
			return 404
		}
		r := q.asked
		r.Path = rest
		q.to = to
		q.ask, _ = line.Ask(r)
		return 0
	}()
	if code == 413 || code == 400 {
		q.asked = api.Request{Method: "-", Path: "/"}
	}
	if code > 0 {
		m.alone(q, code)
		return
	}
	if a, age, err := m.store.Get(q.asked, m.now); err == nil {
		a.Fields = append(a.Fields, api.Field{Name: "age", Value: strconv.Itoa(age)})
		if m.sayable(a) {
			m.answer(q, a, "of the store")
		} else {
			m.alone(q, 502)
			m.seen["of the store, too full"]++
		}
		return
	}
	m.ids++
	q.state, q.id = waits, m.ids
	m.seen["job"]++
}

func (m *model) alone(q *one, code int) {
	m.answer(q, api.Reply{Code: code, Body: []byte(strconv.Itoa(code))}, strconv.Itoa(code))
}

func (m *model) answer(q *one, a api.Reply, how string) {
	q.state, q.reply = answered, a
	m.log = append(m.log, entry(m.now, a.Code, len(a.Body), m.now-q.at, q.asked.Method, q.asked.Path))
	m.seen[how]++
}

// sayable asks Tell, and chapter 4.
func (m *model) sayable(a api.Reply) bool {
	l, err := fields.Tell(a)
	if err != nil {
		return false
	}
	c, _ := head.New(4096)
	_, err = c.Encode(l)
	return err == nil
}

func (m *model) done(q *one, tell []byte, closed bool) {
	a, _, err := line.ReadTell(tell, q.asked.Method == "HEAD", closed)
	switch {
	case err != nil:
		m.alone(q, 502)
		m.seen["cannot be read: "+plain.Told(err).Error()]++
	case !m.sayable(a):
		m.alone(q, 502)
		m.seen["cannot be said"]++
	default:
		m.answer(q, a, "done")
		if ok, _ := m.store.Put(q.asked, a, m.now); ok {
			m.seen["put"]++
		}
	}
}

// both is a Gate and its model, to which the same is done.
type both struct {
	*desk
	m    *model
	dice *rand.Rand
	next int // stream
}

func (x *both) seldom(some int) bool { return x.dice.Intn(100) < some }

func (x *both) pick(l ...string) string { return l[x.dice.Intn(len(l))] }

// feeds frames, in pieces or at once.
func (x *both) feeds(l ...api.Frame) {
	x.t.Helper()
	b := bytesOf(x.t, l...)
	for len(b) > 0 {
		n := len(b)
		if x.seldom(50) {
			n = 1 + x.dice.Intn(n)
		}
		x.is(x.Feed(b[:n]), api.OK)
		b = b[n:]
	}
}

// heads are fields of a request, most of them right.
func (x *both) heads() []api.Field {
	l := []api.Field{
		{Name: ":method", Value: x.pick("GET", "GET", "GET", "HEAD", "POST")},
		{Name: ":path", Value: x.pick("/", "/a", "/a/b", "/c", "*")},
		{Name: ":host", Value: x.pick("h", "i")},
	}
	for range x.dice.Intn(3) {
		l = append(l, api.Field{Name: x.pick("accept", "cookie", "x"), Value: x.pick("", "a", "b; c")})
	}
	if x.seldom(10) {
		wrong := []api.Field{{Name: "keep", Value: "1"}, {Name: "length", Value: "0"}, {Name: "Great"}, {Name: ":x"}, {Name: "x", Value: " "}}
		l = append(l, wrong[x.dice.Intn(len(wrong))])
	}
	return l
}

func (x *both) opens() {
	if len(x.m.in(comes))+len(x.m.in(waits)) == api.MaxStreams {
		return
	}
	x.next += 2 * x.dice.Intn(3)
	q := &one{stream: x.next}
	x.next += 2
	x.m.all = append(x.m.all, q)
	x.heading(q, x.seldom(60))
}

func (x *both) heading(q *one, end bool) {
	l := x.heads()
	x.feeds(x.headOf(q.stream, end, l)...)
	x.m.head(q, l, end)
}

func (x *both) bodies(q *one) {
	n := x.dice.Intn(30)
	if x.seldom(30) {
		n = x.dice.Intn(9000)
	}
	// Half of a window at least is left whatever came ahead.
	for p := range slices.Chunk(some(n), 1000) {
		x.feeds(data(q.stream, false, p))
		x.m.data(q, p, false)
		if q.state == stopped {
			return
		}
	}
	if x.seldom(50) {
		x.feeds(data(q.stream, true, nil))
		x.m.data(q, nil, true)
	}
}

// tells is what a place may say, most of it right.
func (x *both) tells() []byte {
	a := api.Reply{Code: []int{200, 200, 200, 204, 404, 500}[x.dice.Intn(6)], Body: some(x.dice.Intn(60))}
	if x.seldom(20) {
		a.Body = some(x.dice.Intn(mostBody + 1))
	}
	for range x.dice.Intn(4) {
		a.Fields = append(a.Fields, api.Field{Name: x.pick("vary", "keep", "connection", "x"), Value: x.pick("accept", "x", "accept, cookie")})
	}
	if x.seldom(60) {
		a.Fields = append(a.Fields, api.Field{Name: "cache", Value: x.pick("max-1", "max-5", "max-60", "none")})
	}
	if x.seldom(20) {
		for n := 37 + x.dice.Intn(3); len(a.Fields) < n; {
			a.Fields = append(a.Fields, api.Field{Name: "y"})
		}
	}
	b, err := line.Tell(a, x.dice.Intn(2)*50)
	if err != nil {
		x.t.Fatal(err)
	}
	if x.seldom(10) {
		return b[:x.dice.Intn(len(b))]
	}
	if x.seldom(3) {
		return some(9)
	}
	if x.seldom(5) {
		return fmt.Appendf(nil, "EDGE/1 200\r\ncache: max-9\r\n\r\n%s", some(7990+x.dice.Intn(30)))
	}
	return append(b, some(x.dice.Intn(3))...)
}

func (x *both) ends() {
	l := x.m.in(waits)
	if len(l) == 0 || x.seldom(10) {
		// One that waits no more, or never did.
		if id := 1 + x.dice.Intn(x.m.ids+2); !slices.ContainsFunc(l, func(q *one) bool { return q.id == id }) {
			_, _, err := x.Job(id)
			x.is(err, api.ErrNone)
			x.is(x.Done(id, x.tells(), true), api.ErrNone)
			x.is(x.Fail(id), api.ErrNone)
			x.m.seen["none"]++
		}
		return
	}
	q := l[x.dice.Intn(len(l))]
	if x.seldom(15) {
		x.is(x.Fail(q.id), api.OK)
		x.m.alone(q, 504)
		return
	}
	b, closed := x.tells(), x.seldom(40)
	x.is(x.Done(q.id, b, closed), api.OK)
	x.m.done(q, b, closed)
}

func (x *both) ticking() {
	now := x.m.now + x.dice.Intn(5) - 1
	want := api.OK
	switch {
	case now < 0:
		want = api.ErrRange
	case now < x.m.now:
		want = api.ErrState
	default:
		x.m.now = now
	}
	x.is(x.Tick(now), want)
	x.m.seen["tick "+want.Error()]++
}

func (x *both) step() {
	live := append(x.m.in(comes), x.m.in(waits)...)
	switch k := x.dice.Intn(100); {
	case k < 30 || len(live) == 0:
		x.opens()
	case k < 55:
		if l := x.m.in(comes); len(l) > 0 {
			x.bodies(l[x.dice.Intn(len(l))])
		}
	case k < 60:
		if l := x.m.in(comes); len(l) > 0 {
			x.heading(l[x.dice.Intn(len(l))], x.seldom(70))
		}
	case k < 62:
		x.heading(live[x.dice.Intn(len(live))], x.seldom(50))
	case k < 63:
		x.bodies(live[x.dice.Intn(len(live))])
	case k < 66:
		q := live[x.dice.Intn(len(live))]
		x.feeds(stop(q.stream, 5))
		x.m.seen[fmt.Sprint("stopped in ", q.state)]++
		q.state = stopped
	case k < 76:
		x.ticking()
	default:
		x.ends()
	}
	x.takes()
}

// checks all that is told.
func (x *both) checks() {
	x.t.Helper()
	var ids []int
	for _, q := range x.m.in(waits) {
		ids = append(ids, q.id)
	}
	slices.Sort(ids)
	if got := x.Jobs(); !slices.Equal(got, ids) {
		x.t.Errorf("Jobs: got %v, want %v", got, ids)
	}
	for _, q := range x.m.all {
		r := x.replies[q.stream]
		switch q.state {
		case waits:
			x.job(q.id, q.to, q.ask)
		case answered:
			l, _ := fields.Tell(q.reply)
			if r == nil || len(r.heads) != 1 || !slices.Equal(r.heads[0], l) || !bytes.Equal(r.body, q.reply.Body) || r.ends != 1 {
				x.t.Errorf("on %d: got %v, want %v *%d", q.stream, r, l, len(q.reply.Body))
			}
			continue
		}
		x.getsNothing(q.stream)
	}
	x.logged(x.m.log...)
}

// Heads, bodies, stops, ends of jobs and times in any order, held against the model.
func TestManySteps(t *testing.T) {
	seen := map[string]int{}
	for seed := range 400 {
		dice := rand.New(rand.NewSource(int64(seed)))
		rate, burst := 1+dice.Intn(3), 1+dice.Intn(40)
		routes := []api.Route{{Path: "/a", To: "one"}, {Host: "h", Path: "/", To: "two"}, {Host: "h", Path: "/a/b", To: "three"}}
		often, err := limit.New(rate, burst)
		if err != nil {
			t.Fatal(err)
		}
		x := &both{desk: made(t, routes, rate, burst), m: &model{routes: routes, limit: often, store: store.New(), seen: seen}, dice: dice, next: 1}
		for range 300 {
			x.step()
			if x.seldom(5) {
				x.checks()
			}
		}
		x.checks()
		if t.Failed() {
			t.Fatalf("seed %d", seed)
		}
	}
	for _, what := range []string{
		"400", "404", "413", "429", "502", "504", "of the store", "of the store, too full", "job", "done", "put", "none",
		"cannot be read: ErrShort", "cannot be read: ErrSyntax", "cannot be said", "second head", "second head, end", "head of a job", "body of a job",
		"stopped in 0", "stopped in 1", "tick OK", "tick ErrRange", "tick ErrState",
	} {
		if seen[what] < 50 {
			t.Errorf("%s: seen %d times", what, seen[what])
		}
	}
}
