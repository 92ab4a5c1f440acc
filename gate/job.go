package gate

import (
	"maps"
	"slices"
	"strconv"

	"tollgate/api"
	"tollgate/fields"
	"tollgate/line"
	"tollgate/route"
)

// What is answered with a code alone.
const (
	unreadable = 400
	nowhere    = 404
	tooLarge   = 413
	tooOften   = 429
	wrongReply = 502
	noReply    = 504
)

const (
	noMethod   = "-" // of what cannot be read
	noPath     = "/"
	bareMethod = "HEAD" // whose replies have no body
	ageName    = "age"
)

// job is a request that is whole, and what its place is asked.
type job struct {
	asked    api.Request
	stream   int
	at       int // the time when it was whole
	to, rest string
}

// whole does a request that is.
func (g *Gate) whole(stream int) {
	r, code := read(g.coming[stream])
	delete(g.coming, stream)
	j := job{asked: r, stream: stream, at: g.now}
	if code == 0 {
		j.to, j.rest, code = g.pass(r)
	}
	if code != 0 {
		g.answer(j, alone(code))
		return
	}
	if a, age, err := g.store.Get(r, g.now); err == nil {
		a.Fields = append(a.Fields, api.Field{Name: ageName, Value: strconv.Itoa(age)})
		g.answer(j, a)
		return
	}
	g.last++
	g.jobs[g.last] = j
}

// read a request; else the code why it cannot be.
func read(c coming) (r api.Request, code int) {
	unread := api.Request{Method: noMethod, Path: noPath}
	if len(c.body) > api.MaxBody {
		return unread, tooLarge
	}
	r, err := fields.Ask(c.fields, c.body)
	if err != nil {
		return unread, unreadable
	}
	return r, 0
}

// pass a request on to its place; else the code why it is not.
func (g *Gate) pass(r api.Request) (to, rest string, code int) {
	if ok, err := g.limit.Ask(r.Host, g.now, 1); !ok || err != nil {
		return "", "", tooOften
	}
	to, rest, err := route.Rest(g.routes, r.Host, r.Path)
	if err != nil {
		return "", "", nowhere
	}
	return to, rest, 0
}

// alone is a code as a reply.
func alone(code int) api.Reply {
	return api.Reply{Code: code, Body: strconv.AppendInt(nil, int64(code), 10)}
}

// Jobs that wait.
func (g *Gate) Jobs() []int { return slices.Sorted(maps.Keys(g.jobs)) }

// Job that waits.
func (g *Gate) Job(id int) (to string, ask []byte, err error) {
	j, ok := g.jobs[id]
	if !ok {
		return "", nil, api.ErrNone
	}
	r := j.asked
	r.Path = j.rest
	ask, _ = line.Ask(r) // it could be read, and no rest is longer than its path
	return j.to, ask, nil
}

// Done is a job.
func (g *Gate) Done(id int, tell []byte, closed bool) error {
	j, err := g.end(id)
	if err != nil {
		return err
	}
	a, _, err := line.ReadTell(tell, j.asked.Method == bareMethod, closed)
	if err != nil {
		g.answer(j, alone(wrongReply))
		return nil
	}
	// What could not be said is not to be said later either.
	if g.answer(j, a) {
		g.store.Put(j.asked, a, g.now)
	}
	return nil
}

// Fail of a job.
func (g *Gate) Fail(id int) error {
	j, err := g.end(id)
	if err != nil {
		return err
	}
	g.answer(j, alone(noReply))
	return nil
}

// end the waiting of a job.
func (g *Gate) end(id int) (job, error) {
	j, ok := g.jobs[id]
	if !ok {
		return job{}, api.ErrNone
	}
	delete(g.jobs, id)
	return j, nil
}

// answer with a reply, and tell whether that could be said; if not, with a code alone.
func (g *Gate) answer(j job, a api.Reply) bool {
	err := g.say(j.stream, a)
	if err != nil {
		a = alone(wrongReply)
		if g.say(j.stream, a) != nil {
			return false // the Conn is Over: nothing can be said, and so nobody was answered
		}
	}
	g.log = append(g.log, api.Entry{
		Time:   g.now,
		Code:   a.Code,
		Bytes:  len(a.Body),
		Took:   g.now - j.at,
		Method: j.asked.Method,
		Path:   j.asked.Path,
	})
	return err == nil
}

// say a reply: chapter 11's errors of Tell, chapter 12's of Answer.
func (g *Gate) say(stream int, a api.Reply) error {
	l, err := fields.Tell(a)
	if err != nil {
		return err
	}
	bare := len(a.Body) == 0
	if err := g.conn.Answer(stream, l, bare); err != nil {
		return err
	}
	if bare {
		return nil
	}
	return g.conn.Send(stream, a.Body, true)
}
