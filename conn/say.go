package conn

import (
	"tollgate/api"
	"tollgate/flow"
	"tollgate/stream"
)

// Answer says a head.
func (c *Conn) Answer(id int, l []api.Field, end bool) error {
	if c.over || c.side.Waits(id) {
		return api.ErrState
	}
	next, err := stream.Say(c.streams.State(id), api.Head, end)
	if err != nil {
		return err
	}
	if err := c.side.SayHead(id, l, end); err != nil {
		return err
	}
	c.put(id, next)
	return nil
}

// Send a body.
func (c *Conn) Send(id int, body []byte, end bool) error {
	if c.over {
		return api.ErrState
	}
	if _, err := stream.Say(c.streams.State(id), api.Data, end); err != nil {
		return err
	}
	if c.side.EndWaits(id) {
		return api.ErrState
	}
	c.side.Send(id, body, end)
	return nil
}

// Stop a stream.
func (c *Conn) Stop(id, code int) error {
	if err := c.mayCode(code); err != nil {
		return err
	}
	if _, err := stream.Say(c.streams.State(id), api.Stop, false); err != nil {
		return err
	}
	c.sayStop(id, code)
	return nil
}

// Bye is said.
func (c *Conn) Bye(code int) error {
	if err := c.mayCode(code); err != nil {
		return err
	}
	c.sayBye(code)
	return nil
}

// Used says that bytes that came are done with.
func (c *Conn) Used(id, n int) error {
	if c.over {
		return api.ErrState
	}
	if n < 0 || n > c.unused[id] {
		return api.ErrRange
	}
	c.use(id, n)
	c.grant(0, c.in, c.allUnused)
	if _, err := stream.Say(c.streams.State(id), api.Wide, false); err == nil {
		c.grant(id, c.lanes[id], c.unused[id])
	}
	return nil
}

// Queued tells how many bytes wait.
func (c *Conn) Queued(id int) int { return c.side.Queued(id) }

// mayCode tells whether a code may be said now.
func (c *Conn) mayCode(code int) error {
	if c.over {
		return api.ErrState
	}
	if code < 0 || code > api.MaxWord {
		return api.ErrRange
	}
	return nil
}

// use up n bytes of a stream; n is below 0 of bytes that come.
func (c *Conn) use(id, n int) {
	c.allUnused -= n
	c.unused[id] -= n
	if c.unused[id] == 0 {
		delete(c.unused, id)
	}
}

// grant says by how much a window is wider, if it is due. What is not used still counts: it is not to be granted anew.
func (c *Conn) grant(id int, w *flow.Window, unused int) {
	n := flow.Due(w.Left()+unused, api.Window)
	if n == 0 {
		return
	}
	w.Give(n) // never above Window
	c.side.SayWords(api.Wide, id, n)
}
