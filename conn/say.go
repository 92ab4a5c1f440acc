package conn

import (
	"slices"

	"tollgate/api"
	"tollgate/flow"
	"tollgate/frame"
	"tollgate/stream"
)

// Answer says a head.
func (c *Conn) Answer(id int, l []api.Field, end bool) error {
	if c.over || slices.Contains(c.queue, id) {
		return api.ErrState
	}
	next, err := stream.Say(c.streams.State(id), api.Head, end)
	if err != nil {
		return err
	}
	block, err := c.coder.Encode(l)
	if err != nil {
		return err
	}
	for _, f := range frame.Split(id, block, end) {
		c.say(f)
	}
	c.put(id, next)
	return nil
}

// Send a body.
func (c *Conn) Send(id int, body []byte, end bool) error {
	if c.over {
		return api.ErrState
	}
	if _, err := stream.Say(c.streams.State(id), api.Data, end); err != nil {
		return err
	}
	l := c.lanes[id]
	if l.end {
		return api.ErrState
	}
	if !l.waits() {
		c.queue = append(c.queue, id)
	}
	l.wait = append(l.wait, body...)
	l.end = end
	c.sayLane(id)
	return nil
}

// Stop a stream.
func (c *Conn) Stop(id, code int) error {
	if err := c.mayCode(code); err != nil {
		return err
	}
	if _, err := stream.Say(c.streams.State(id), api.Stop, false); err != nil {
		return err
	}
	c.sayStop(id, code)
	return nil
}

// Bye is said.
func (c *Conn) Bye(code int) error {
	if err := c.mayCode(code); err != nil {
		return err
	}
	c.sayBye(code)
	return nil
}

// Used says that bytes that came are done with.
func (c *Conn) Used(id, n int) error {
	if c.over {
		return api.ErrState
	}
	if n < 0 || n > c.unused[id] {
		return api.ErrRange
	}
	c.use(id, n)
	c.grant(0, c.in, c.allUnused)
	if _, err := stream.Say(c.streams.State(id), api.Wide, false); err == nil {
		c.grant(id, c.lanes[id].in, c.unused[id])
	}
	return nil
}

// Queued tells how many bytes wait.
func (c *Conn) Queued(id int) int {
	if l, ok := c.lanes[id]; ok {
		return len(l.wait)
	}
	return 0
}

// mayCode tells whether a code may be said now.
func (c *Conn) mayCode(code int) error {
	if c.over {
		return api.ErrState
	}
	if code < 0 || code > api.MaxWord {
		return api.ErrRange
	}
	return nil
}

// use up n bytes of a stream; n is below 0 of bytes that come.
func (c *Conn) use(id, n int) {
	c.allUnused -= n
	c.unused[id] -= n
	if c.unused[id] == 0 {
		delete(c.unused, id)
	}
}

// grant says by how much a window is wider, if it is due. What is not used still counts: it is not to be granted anew.
func (c *Conn) grant(id int, w *flow.Window, unused int) {
	n := flow.Due(w.Left()+unused, api.Window)
	if n == 0 {
		return
	}
	w.Give(n) // never above Window
	c.say(api.Frame{Kind: api.Wide, Stream: id, Body: word(n)})
}

// sayWaiting says what waits, as far as the windows go.
func (c *Conn) sayWaiting() {
	// Those that are done leave the queue meanwhile.
	for _, id := range slices.Clone(c.queue) {
		c.sayLane(id)
	}
}

// sayLane says what waits of one stream, as far as both windows go; it leaves the queue when nothing is left.
func (c *Conn) sayLane(id int) {
	l := c.lanes[id]
	for l.waits() {
		n := c.room(l)
		if n == 0 && len(l.wait) > 0 {
			return
		}
		c.sayPiece(id, l, n)
	}
	l.wait = nil // so that the memory of what has gone is not kept
	c.leave(id)
}

// room tells how many bytes may go in the next piece. A window may be below 0.
func (c *Conn) room(l *lane) int {
	return max(0, min(len(l.wait), api.MaxFrame, c.out.Left(), l.out.Left()))
}

// sayPiece says n bytes that wait; with the last ones the end that waits.
func (c *Conn) sayPiece(id int, l *lane, n int) {
	f := api.Frame{Kind: api.Data, Stream: id, Body: l.wait[:n]}
	last := l.end && n == len(l.wait)
	if last {
		f.Flags = api.End
		l.end = false
	}
	c.say(f)
	// An end alone takes nothing, so that it goes even where a window is below 0 and has not 0 to take.
	if n > 0 {
		c.out.Take(n)
		l.out.Take(n)
	}
	l.wait = l.wait[n:]
	next, _ := stream.Say(c.streams.State(id), api.Data, last) // Send has asked it, and the stream is not Closed since
	c.put(id, next)
}

// leave the queue.
func (c *Conn) leave(id int) {
	c.queue = slices.DeleteFunc(c.queue, func(other int) bool { return other == id })
}
