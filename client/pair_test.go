package client

import (
	"bytes"
	"fmt"
	"math/rand"
	"slices"
	"testing"

	"tollgate/api"
	"tollgate/conn"
	"tollgate/fields"
)

// pair is a Client and the Conn of the other side, which answers each request when it is whole.
type pair struct {
	t     *testing.T
	dice  *rand.Rand
	c     *Client
	far   *conn.Conn
	heads map[int][]api.Field
	came  map[int][]byte
	wait  []int // whole requests that are not answered
}

// hand over bytes in pieces.
func (p *pair) hand(b []byte, take func(b []byte)) {
	for len(b) > 0 {
		n := 1 + p.dice.Intn(min(len(b), 1500))
		take(b[:n])
		b = b[n:]
	}
}

// goes: what either side has said is handed to the other, till neither says more.
func (p *pair) goes() {
	p.t.Helper()
	for {
		there, here := p.c.Out(), p.far.Out()
		if len(there)+len(here) == 0 {
			return
		}
		p.hand(there, func(b []byte) {
			for _, e := range p.far.Feed(b) {
				p.event(e)
			}
		})
		p.hand(here, func(b []byte) {
			if err := p.c.Feed(b); err != nil {
				p.t.Fatalf("Feed: %v", err)
			}
		})
	}
}

func (p *pair) event(e api.Event) {
	p.t.Helper()
	switch e.What {
	case api.Asked:
		p.heads[e.Stream] = e.Fields
	case api.Came:
		p.came[e.Stream] = append(p.came[e.Stream], e.Body...)
		if err := p.far.Used(e.Stream, len(e.Body)); err != nil {
			p.t.Fatal(err)
		}
	default:
		p.t.Fatalf("an event of kind %d, with code %d", e.What, e.Code)
	}
	if e.End {
		p.wait = append(p.wait, e.Stream)
	}
}

// asked is the request that came on a stream.
func (p *pair) asked(id int) api.Request {
	p.t.Helper()
	r, err := fields.Ask(p.heads[id], p.came[id])
	if err != nil {
		p.t.Fatal(err)
	}
	return r
}

func (p *pair) answer(id int, r api.Reply) {
	p.t.Helper()
	l, err := fields.Tell(r)
	if err != nil {
		p.t.Fatal(err)
	}
	if err := p.far.Answer(id, l, len(r.Body) == 0); err != nil {
		p.t.Fatal(err)
	}
	if len(r.Body) > 0 {
		if err := p.far.Send(id, r.Body, true); err != nil {
			p.t.Fatal(err)
		}
	}
}

// K1, K2: with a Conn as the other side each request comes as it was asked, and each is answered by what was told to it.
func TestPair(t *testing.T) {
	for seed := range 60 {
		p := &pair{t: t, dice: rand.New(rand.NewSource(int64(seed))), c: New(), far: conn.New(), heads: map[int][]api.Field{}, came: map[int][]byte{}}
		asks, tells := map[int]api.Request{}, map[int]api.Reply{}
		for i := 0; len(tells) < 80; i++ {
			if open := len(p.c.Open()); open < api.MaxStreams && p.dice.Intn(2) == 0 {
				r := api.Request{Method: "PUT", Path: fmt.Sprint("/", i), Host: "h", Body: some(p.dice.Intn(2) * p.dice.Intn(api.MaxBody))}
				r.Fields = []api.Field{{Name: "n", Value: fmt.Sprint(p.dice.Intn(20))}, {Name: "cookie", Value: "a; b"}}
				id, err := p.c.Ask(r)
				if err != nil {
					t.Fatal(err)
				}
				asks[id] = r
			}
			if p.dice.Intn(3) > 0 {
				p.goes()
			}
			if len(p.wait) > 0 && p.dice.Intn(2) == 0 {
				at := p.dice.Intn(len(p.wait))
				id := p.wait[at]
				p.wait = slices.Delete(p.wait, at, at+1)
				// An odd Code: so it is none that has no body.
				tells[id] = api.Reply{Code: 200 + id%300, Fields: []api.Field{{Name: "for", Value: p.asked(id).Path}}, Body: some(p.dice.Intn(2) * p.dice.Intn(api.MaxBody))}
				p.answer(id, tells[id])
			}
		}
		p.goes()
		for id, want := range tells {
			got := p.asked(id)
			if got.Path != asks[id].Path || !slices.Equal(got.Fields, asks[id].Fields) || !bytes.Equal(got.Body, asks[id].Body) {
				t.Errorf("seed %d: another request came on %d", seed, id)
			}
			talk{t, p.c}.replied(id, want)
		}
		if p.far.Over() || len(p.c.Open()) != len(asks)-len(tells) {
			t.Errorf("seed %d: over %v, open %v", seed, p.far.Over(), p.c.Open())
		}
	}
}
