package client

import (
	"tollgate/api"
	"tollgate/frame"
	"tollgate/side"
)

// Feed hears bytes.
func (c *Client) Feed(b []byte) error {
	if c.wrong {
		return api.ErrState
	}
	for f, err := range c.side.Frames(b) {
		if err != nil || !c.hear(f) {
			c.wrong = true
			c.side.Shut()
			return api.ErrSyntax
		}
	}
	return nil
}

// hear a frame; false: it is wrong.
func (c *Client) hear(f api.Frame) bool {
	if frame.Check(f) != api.CodeNone || !c.side.InTurn(f) {
		return false
	}
	switch f.Kind {
	case api.Data, api.Head, api.More, api.Stop:
		return c.awaits(f.Stream) && c.hearStream(f)
	case api.Wide:
		return (f.Stream == 0 || c.awaits(f.Stream)) && c.side.Widen(f.Stream, side.Word(f, 0)) == nil
	case api.Set:
		return c.side.Set(f) == nil
	case api.Ping:
		c.side.Ping(f)
	case api.Bye:
		c.hearBye(side.Word(f, 0), side.Word(f, 1))
	}
	return true
}

// awaits tells whether something may come of a stream. It may of one that was stopped: that can be on its way already.
func (c *Client) awaits(id int) bool {
	_, whole := c.whole[id]
	return c.asked(id) && !whole
}

// hearStream hears what is a part of a reply, or stops it.
func (c *Client) hearStream(f api.Frame) bool {
	switch f.Kind {
	case api.Data:
		c.hearData(f)
	case api.Stop:
		delete(c.open, f.Stream)
		c.side.Close(f.Stream)
	default:
		return c.hearHead(f)
	}
	return true
}

func (c *Client) hearHead(f api.Frame) bool {
	// Of a stream that was stopped too: the table must stay as the other side has it.
	h, whole, err := c.side.Gather(f)
	if err != nil {
		return false
	}
	if whole {
		c.gather(h.Stream, h.End, func(came *call) { came.fields = append(came.fields, h.Fields...) })
	}
	return true
}

func (c *Client) hearData(f api.Frame) {
	c.gather(f.Stream, side.Ends(f), func(came *call) {
		// Of more than MaxBody only that it is so is told.
		if len(came.body) <= api.MaxBody {
			came.body = append(came.body, f.Body...)
		}
	})
	c.grant(f.Stream, len(f.Body))
}

// gather what comes of a reply, which is whole with its end. Of a stream that was stopped it is passed over.
func (c *Client) gather(id int, end bool, add func(came *call)) {
	came, open := c.open[id]
	if !open {
		return
	}
	add(came)
	if !end {
		return
	}
	delete(c.open, id)
	c.whole[id] = came
	if !c.side.Waits(id) {
		c.side.Close(id)
	}
}

// grant anew what came of a body: to all, and to its stream, if that has not ended.
func (c *Client) grant(id, n int) {
	if n == 0 {
		return
	}
	c.side.SayWords(api.Wide, 0, n)
	if _, open := c.open[id]; open {
		c.side.SayWords(api.Wide, id, n)
	}
}

func (c *Client) hearBye(last, code int) {
	if !c.bye.said || last < c.bye.least {
		c.bye.least = last
	}
	c.bye.said, c.bye.code = true, code
}
