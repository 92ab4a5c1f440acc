package conn

import (
	"errors"

	"tollgate/api"
	"tollgate/frame"
	"tollgate/side"
	"tollgate/stream"
)

// maxBlock is how many frames a head may have.
const maxBlock = 16

// nothing is the event of a frame of which none is told.
func nothing() api.Event { return api.Event{} }

// hear a frame, or what Read says of it. No frame has more than one event.
func (c *Conn) hear(f api.Frame, err error) api.Event {
	if code := c.refuse(f, err); code != api.CodeNone {
		return c.fail(code)
	}
	switch f.Kind {
	case api.Data:
		return c.hearData(f)
	case api.Head, api.More:
		return c.hearHead(f)
	case api.Stop:
		return c.hearStop(f)
	case api.Set:
		return c.hearSet(f)
	case api.Ping:
		c.side.Ping(f)
	case api.Bye:
		return api.Event{What: api.Ended, Code: side.Word(f, 1)}
	case api.Wide:
		return c.hearWide(f)
	}
	return nothing()
}

// refuse gives the code of what is wrong with a frame whatever it says: 0 of nothing.
func (c *Conn) refuse(f api.Frame, err error) int {
	first := !c.begun
	c.begun = true
	switch {
	case errors.Is(err, api.ErrFull):
		return api.CodeSize
	case err != nil, first && f.Kind != api.Set:
		return api.CodeProto
	}
	if code := frame.Check(f); code != api.CodeNone {
		return code
	}
	if !c.side.InTurn(f) || c.side.Gathered() == maxBlock {
		return api.CodeProto
	}
	return api.CodeNone
}

func (c *Conn) hearHead(f api.Frame) api.Event {
	// Of streams that are passed over too: the table must stay as the other side has it.
	h, whole, err := c.side.Gather(f)
	if err != nil {
		return c.fail(api.CodeHead)
	}
	if !whole || c.passesOver(h.Stream) {
		return nothing()
	}
	if c.streams.State(h.Stream) == api.Idle {
		if code, all := c.streams.Open(h.Stream); code != api.CodeNone {
			return c.wrong(h.Stream, code, all)
		}
		c.open(h.Stream)
	}
	if code, all := c.move(h.Stream, api.Head, h.End); code != api.CodeNone {
		return c.wrong(h.Stream, code, all)
	}
	return api.Event{What: api.Asked, Stream: h.Stream, Fields: h.Fields, End: h.End}
}

func (c *Conn) hearData(f api.Frame) api.Event {
	over, lane := c.passesOver(f.Stream), c.lanes[f.Stream]
	if !over {
		if code, all := c.move(f.Stream, api.Data, side.Ends(f)); code != api.CodeNone {
			return c.wrong(f.Stream, code, all)
		}
	}
	n := len(f.Body)
	if err := c.in.Take(n); err != nil {
		return c.fail(api.CodeFlow)
	}
	// What is passed over is done with: it is not kept as unused, so that the next Used grants it anew.
	if over {
		return nothing()
	}
	if err := lane.Take(n); err != nil {
		return c.reset(f.Stream, api.CodeFlow)
	}
	c.use(f.Stream, -n)
	return api.Event{What: api.Came, Stream: f.Stream, Body: f.Body, End: side.Ends(f)}
}

func (c *Conn) hearStop(f api.Frame) api.Event {
	was := c.streams.State(f.Stream)
	if code, all := c.move(f.Stream, api.Stop, false); code != api.CodeNone {
		return c.wrong(f.Stream, code, all)
	}
	if was == api.Closed {
		return nothing()
	}
	return api.Event{What: api.Reset, Stream: f.Stream, Code: side.Word(f, 0)}
}

func (c *Conn) hearSet(f api.Frame) api.Event {
	if err := c.side.Set(f); err != nil {
		return c.fail(api.CodeFlow)
	}
	return nothing()
}

func (c *Conn) hearWide(f api.Frame) api.Event {
	if f.Stream != 0 {
		if code, all := c.move(f.Stream, api.Wide, false); code != api.CodeNone {
			return c.wrong(f.Stream, code, all)
		}
	}
	if err := c.side.Widen(f.Stream, side.Word(f, 0)); err != nil {
		return c.wrong(f.Stream, api.CodeFlow, f.Stream == 0)
	}
	return nothing()
}

// move a stream on as Hear says, or tell what is wrong.
func (c *Conn) move(id, kind int, end bool) (code int, all bool) {
	next, code, all := stream.Hear(c.streams.State(id), kind, end)
	if code == api.CodeNone {
		c.put(id, next)
	}
	return code, all
}

// passesOver tells whether what still comes of a stream is passed over. Stop and Wide need not ask: of a stream that is Closed they are nothing in any case.
func (c *Conn) passesOver(id int) bool {
	_, ok := c.stopped[id]
	return ok
}
