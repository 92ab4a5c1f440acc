package gate

import (
	"bytes"
	"fmt"
	"math/rand"
	"slices"
	"testing"

	"tollgate/api"
	"tollgate/client"
	"tollgate/line"
)

// pair is a Gate and a Client of it.
type pair struct {
	t     *testing.T
	dice  *rand.Rand
	g     *Gate
	c     *client.Client
	piece int // bytes that are handed over at once; 0: all; below 0: some
}

func (p *pair) hand(b []byte, feed func(b []byte) error) {
	p.t.Helper()
	for len(b) > 0 {
		n := len(b)
		switch {
		case p.piece > 0:
			n = min(n, p.piece)
		case p.piece < 0:
			n = 1 + p.dice.Intn(min(n, 1500))
		}
		if err := feed(b[:n]); err != nil {
			p.t.Fatalf("Feed: %v", err)
		}
		b = b[n:]
	}
}

// goes: what either has said is handed to the other, till neither says more.
func (p *pair) goes() {
	p.t.Helper()
	for {
		there, here := p.c.Out(), p.g.Out()
		if len(there)+len(here) == 0 {
			return
		}
		p.hand(there, p.g.Feed)
		p.hand(here, p.c.Feed)
	}
}

// answerTo a request is its own: it tells its path, and its body from behind. An odd Code has a body.
func answerTo(r api.Request, i int) api.Reply {
	body := append([]byte(r.Path), r.Body...)
	slices.Reverse(body)
	return api.Reply{Code: 201 + i*2%300, Fields: []api.Field{{Name: "for", Value: r.Path}}, Body: body[:min(len(body), mostBody)]}
}

// ends a job: most often by a reply to what its place was asked, else it fails.
func (p *pair) ends(id, i int) (code int) {
	p.t.Helper()
	_, ask, err := p.g.Job(id)
	if err != nil {
		p.t.Fatal(err)
	}
	r, used, err := line.ReadAsk(ask)
	if err != nil || used != len(ask) {
		p.t.Fatalf("a place cannot read what it is asked: %v", err)
	}
	if p.dice.Intn(8) == 0 {
		if err := p.g.Fail(id); err != nil {
			p.t.Error(err)
		}
		return 504
	}
	a := answerTo(r, i)
	b, err := line.Tell(a, p.dice.Intn(2)*(1+p.dice.Intn(3000)))
	if err != nil {
		p.t.Fatal(err)
	}
	if err := p.g.Done(id, b, p.dice.Intn(2) == 0); err != nil {
		p.t.Error(err)
	}
	return a.Code
}

// request of a number, by which its answer is known.
func (p *pair) request(i int) api.Request {
	r := api.Request{Method: "PUT", Path: fmt.Sprint("/", i), Host: []string{"h", "i"}[i%2], Fields: []api.Field{{Name: "cookie", Value: "a; b"}}}
	if p.dice.Intn(2) == 0 {
		r.Body = some(p.dice.Intn(mostBody))
	}
	if p.dice.Intn(10) == 0 {
		r.Path = fmt.Sprint("*", i)
	}
	return r
}

// check that each was answered by its own.
func (p *pair) check(asks map[int]api.Request, codes map[int]int, order []int) {
	p.t.Helper()
	for stream, r := range asks {
		a, err := p.c.Reply(stream)
		if err != nil || a.Code != codes[stream] {
			p.t.Errorf("on %d: got %d, %v, want %d", stream, a.Code, err, codes[stream])
			continue
		}
		want := api.Reply{Body: fmt.Append(nil, a.Code)}
		if a.Code != 404 && a.Code != 504 {
			want = answerTo(r, 0)
		}
		if !slices.Equal(a.Fields, want.Fields) || !bytes.Equal(a.Body, want.Body) {
			p.t.Errorf("on %d: another answer: %v *%d, want %v *%d", stream, a.Fields, len(a.Body), want.Fields, len(want.Body))
		}
	}
	var logged, answered []string
	for _, e := range p.g.Log() {
		logged = append(logged, fmt.Sprint(e.Code, e.Path))
	}
	for _, stream := range order {
		answered = append(answered, fmt.Sprint(codes[stream], asks[stream].Path))
	}
	// Those that are answered at once are logged as they come, others as they end.
	if !slices.Equal(logged, answered) {
		p.t.Errorf("logged %v, want %v", logged, answered)
	}
}

// E3: several requests at once, answered in another order than they came, in pieces of any size: each is answered once, by its own.
func TestPair(t *testing.T) {
	for seed := range 90 {
		g, err := New([]api.Route{{Path: "/", To: "one"}}, mostTime, mostTime)
		if err != nil {
			t.Fatal(err)
		}
		p := &pair{t: t, dice: rand.New(rand.NewSource(int64(seed))), g: g, c: client.New(), piece: []int{1, 0, -1}[seed%3]}
		asks, codes := map[int]api.Request{}, map[int]int{}
		var order, known []int // streams as they were answered, and those of jobs: ids rise as requests become whole
		byPath := map[string]int{}
		for i := range 60 {
			for n := p.dice.Intn(5); n > 0 && len(p.c.Open()) < api.MaxStreams; n-- {
				r := p.request(len(asks))
				stream, err := p.c.Ask(r)
				if err != nil {
					t.Fatal(err)
				}
				asks[stream], byPath[r.Path] = r, stream
			}
			p.goes()
			for _, e := range g.Log()[len(order):] {
				if e.Code != 404 {
					t.Fatalf("seed %d: %v is logged, and nobody answered it", seed, e)
				}
				order = append(order, byPath[e.Path])
				codes[byPath[e.Path]] = 404
			}
			jobs := g.Jobs()
			for n := p.dice.Intn(5); n > 0 && len(jobs) > 0; n-- {
				at := p.dice.Intn(len(jobs))
				_, ask, _ := g.Job(jobs[at])
				r, _, _ := line.ReadAsk(ask)
				stream := byPath[r.Path]
				order, known = append(order, stream), append(known, stream)
				codes[stream] = p.ends(jobs[at], i)
				jobs = slices.Delete(jobs, at, at+1)
			}
		}
		for _, id := range g.Jobs() {
			_, ask, _ := g.Job(id)
			r, _, _ := line.ReadAsk(ask)
			order, known = append(order, byPath[r.Path]), append(known, byPath[r.Path])
			codes[byPath[r.Path]] = p.ends(id, id)
		}
		p.goes()
		p.check(asks, codes, order)
		if len(order) != len(asks) || len(known) < 40 || slices.IsSorted(known) || len(p.c.Open()) > 0 || len(g.Jobs()) > 0 {
			t.Errorf("seed %d: %d asked, %d answered, %d of them jobs; open %v, jobs %v", seed, len(asks), len(order), len(known), p.c.Open(), g.Jobs())
		}
		if t.Failed() {
			t.Fatalf("seed %d", seed)
		}
	}
}

// E3: what a Client asks at once is answered the same, whatever pieces it comes in.
func TestPairPieces(t *testing.T) {
	run := func(piece int) string {
		g, err := New(roads(), mostTime, mostTime)
		if err != nil {
			t.Fatal(err)
		}
		p := &pair{t: t, dice: rand.New(rand.NewSource(1)), g: g, c: client.New(), piece: piece}
		for i := range api.MaxStreams {
			if _, err := p.c.Ask(post([]string{"/a/b", "/c", "*"}[i%3], i*15)); err != nil {
				t.Fatal(err)
			}
		}
		p.goes()
		s := fmt.Sprint(g.Jobs())
		for _, id := range []int{10, 1, 7, 3, 2, 11, 4, 5, 6, 8, 9} {
			_, ask, err := g.Job(id)
			s += fmt.Sprintf(" %s", ask)
			if err == nil {
				err = g.Done(id, told(t, 200, fmt.Sprintf("%d: %s", id, ask)), false)
			}
			if err != nil {
				t.Errorf("job %d: %v", id, err)
			}
		}
		p.goes()
		for stream := 1; stream < 2*api.MaxStreams; stream += 2 {
			a, err := p.c.Reply(stream)
			s += fmt.Sprintf(" %d %v %s %v", a.Code, a.Fields, a.Body, err)
		}
		return s + fmt.Sprint(g.Log())
	}
	want := run(0)
	for _, piece := range []int{1, 2, 7, 9, 10, 1033, 1034, -1} {
		if got := run(piece); got != want {
			t.Errorf("in pieces of %d: got %q, want %q", piece, got, want)
		}
	}
}
