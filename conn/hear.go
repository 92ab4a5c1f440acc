package conn

import (
	"errors"

	"tollgate/api"
	"tollgate/frame"
	"tollgate/stream"
)

// maxBlock is how many frames a head may have.
const maxBlock = 16

// block is a head that is not whole yet; of no frames: there is none.
type block struct {
	stream, frames int
	end            bool
	bytes          []byte
}

// nothing is the event of a frame of which none is told.
func nothing() api.Event { return api.Event{} }

// hear a frame, or what Read says of it. No frame has more than one event.
func (c *Conn) hear(f api.Frame, err error) api.Event {
	if code := c.refuse(f, err); code != api.CodeNone {
		return c.fail(code)
	}
	switch f.Kind {
	case api.Data:
		return c.hearData(f)
	case api.Head, api.More:
		return c.hearHead(f)
	case api.Stop:
		return c.hearStop(f)
	case api.Set:
		return c.hearSet(f)
	case api.Ping:
		return c.hearPing(f)
	case api.Bye:
		return api.Event{What: api.Ended, Code: frame.Number(f.Body[wordBytes : 2*wordBytes])}
	case api.Wide:
		return c.hearWide(f)
	}
	return nothing()
}

// refuse gives the code of what is wrong with a frame whatever it says: 0 of nothing.
func (c *Conn) refuse(f api.Frame, err error) int {
	first := !c.begun
	c.begun = true
	switch {
	case errors.Is(err, api.ErrFull):
		return api.CodeSize
	case err != nil, first && f.Kind != api.Set:
		return api.CodeProto
	}
	if code := frame.Check(f); code != api.CodeNone {
		return code
	}
	if !c.inTurn(f) {
		return api.CodeProto
	}
	return api.CodeNone
}

// inTurn tells whether a frame may follow: More a head that is not whole, and nothing else that.
func (c *Conn) inTurn(f api.Frame) bool {
	if c.block.frames == 0 {
		return f.Kind != api.More
	}
	return f.Kind == api.More && f.Stream == c.block.stream && c.block.frames < maxBlock
}

// hearHead gathers the frames of a head.
func (c *Conn) hearHead(f api.Frame) api.Event {
	if f.Kind == api.Head {
		c.block = block{stream: f.Stream, end: ends(f)}
	}
	c.block.frames++
	c.block.bytes = append(c.block.bytes, f.Body...)
	if f.Flags&api.Whole == 0 {
		return nothing()
	}
	whole := c.block
	c.block = block{}
	return c.hearWhole(whole)
}

func (c *Conn) hearWhole(b block) api.Event {
	// Of streams that are passed over too: the table must stay as the other side has it.
	fields, err := c.coder.Decode(b.bytes)
	if err != nil {
		return c.fail(api.CodeHead)
	}
	if c.passesOver(b.stream) {
		return nothing()
	}
	if c.streams.State(b.stream) == api.Idle {
		if code, all := c.streams.Open(b.stream); code != api.CodeNone {
			return c.wrong(b.stream, code, all)
		}
		c.lanes[b.stream] = &lane{in: window(api.Window), out: window(c.first)}
	}
	if code, all := c.move(b.stream, api.Head, b.end); code != api.CodeNone {
		return c.wrong(b.stream, code, all)
	}
	return api.Event{What: api.Asked, Stream: b.stream, Fields: fields, End: b.end}
}

func (c *Conn) hearData(f api.Frame) api.Event {
	over, l := c.passesOver(f.Stream), c.lanes[f.Stream]
	if !over {
		if code, all := c.move(f.Stream, api.Data, ends(f)); code != api.CodeNone {
			return c.wrong(f.Stream, code, all)
		}
	}
	n := len(f.Body)
	if err := c.in.Take(n); err != nil {
		return c.fail(api.CodeFlow)
	}
	// What is passed over is done with: it is not kept as unused, so that the next Used grants it anew.
	if over {
		return nothing()
	}
	if err := l.in.Take(n); err != nil {
		return c.reset(f.Stream, api.CodeFlow)
	}
	c.use(f.Stream, -n)
	return api.Event{What: api.Came, Stream: f.Stream, Body: f.Body, End: ends(f)}
}

func (c *Conn) hearStop(f api.Frame) api.Event {
	was := c.streams.State(f.Stream)
	if code, all := c.move(f.Stream, api.Stop, false); code != api.CodeNone {
		return c.wrong(f.Stream, code, all)
	}
	if was == api.Closed {
		return nothing()
	}
	return api.Event{What: api.Reset, Stream: f.Stream, Code: frame.Number(f.Body)}
}

func (c *Conn) hearSet(f api.Frame) api.Event {
	if ends(f) {
		return nothing()
	}
	for s := range frame.Settings(f.Body) {
		switch s[0] {
		case api.SetWindow:
			if err := c.shift(s[1]); err != nil {
				return c.fail(api.CodeFlow)
			}
		case api.SetTable:
			c.coder.Resize(min(s[1], api.MaxTable))
		}
	}
	// First it is said that the settings hold, then what goes out because they do.
	c.say(api.Frame{Kind: api.Set, Flags: api.End})
	c.sayWaiting()
	return nothing()
}

// shift the windows for what goes out of all streams to what SetWindow says.
func (c *Conn) shift(now int) error {
	for _, l := range c.lanes {
		// Whichever is told first: with an error all is over, and none of them is asked any more.
		if err := l.out.Shift(c.first, now); err != nil {
			return err
		}
	}
	c.first = now
	return nil
}

func (c *Conn) hearPing(f api.Frame) api.Event {
	if !ends(f) {
		c.say(api.Frame{Kind: api.Ping, Flags: api.End, Body: f.Body})
	}
	return nothing()
}

func (c *Conn) hearWide(f api.Frame) api.Event {
	by := frame.Number(f.Body)
	if f.Stream == 0 {
		if err := c.out.Give(by); err != nil {
			return c.fail(api.CodeFlow)
		}
		c.sayWaiting()
		return nothing()
	}
	if code, all := c.move(f.Stream, api.Wide, false); code != api.CodeNone {
		return c.wrong(f.Stream, code, all)
	}
	l, ok := c.lanes[f.Stream]
	if !ok {
		return nothing()
	}
	if err := l.out.Give(by); err != nil {
		return c.reset(f.Stream, api.CodeFlow)
	}
	c.sayWaiting()
	return nothing()
}

// move a stream on as Hear says, or tell what is wrong.
func (c *Conn) move(id, kind int, end bool) (code int, all bool) {
	next, code, all := stream.Hear(c.streams.State(id), kind, end)
	if code == api.CodeNone {
		c.put(id, next)
	}
	return code, all
}

// passesOver tells whether what still comes of a stream is passed over. Stop and Wide need not ask: of a stream that is Closed they are nothing in any case.
func (c *Conn) passesOver(id int) bool {
	_, ok := c.stopped[id]
	return ok
}

func ends(f api.Frame) bool { return f.Flags&api.End != 0 }
