package side

import (
	"slices"

	"tollgate/api"
	"tollgate/flow"
)

// lane is what a stream has for its body that goes out.
type lane struct {
	window *flow.Window
	wait   []byte
	end    bool // an end waits, behind these bytes
}

func (l *lane) waits() bool { return len(l.wait) > 0 || l.end }

// Open a stream, so that a body may be sent on it.
func (s *Side) Open(id int) { s.lanes[id] = &lane{window: window(s.first)} }

// Close a stream: what waits is gone.
func (s *Side) Close(id int) {
	delete(s.lanes, id)
	s.leave(id)
}

// Send a body on a stream that is open and has no end that waits. What does not go waits.
func (s *Side) Send(id int, body []byte, end bool) {
	l := s.lanes[id]
	if !l.waits() {
		s.queue = append(s.queue, id)
	}
	l.wait = append(l.wait, body...)
	l.end = end
	s.sayLane(id, l)
}

// Waits tells whether something of a stream waits.
func (s *Side) Waits(id int) bool { return slices.Contains(s.queue, id) }

// EndWaits tells whether an end of a stream waits.
func (s *Side) EndWaits(id int) bool {
	l, ok := s.lanes[id]
	return ok && l.end
}

// Queued tells how many bytes wait.
func (s *Side) Queued(id int) int {
	if l, ok := s.lanes[id]; ok {
		return len(l.wait)
	}
	return 0
}

// Widen the window of a stream, if it is open, or with 0 that of the connection: chapter 7's errors of Give.
func (s *Side) Widen(id, n int) error {
	w := s.all
	if id != 0 {
		l, ok := s.lanes[id]
		if !ok {
			return nil
		}
		w = l.window
	}
	if err := w.Give(n); err != nil {
		return err
	}
	s.sayWaiting()
	return nil
}

// shift the windows of all streams to what SetWindow says.
func (s *Side) shift(now int) error {
	for _, l := range s.lanes {
		// Whichever is told first: with an error all is over, and none of them is asked any more.
		if err := l.window.Shift(s.first, now); err != nil {
			return err
		}
	}
	s.first = now
	return nil
}

// sayWaiting says what waits, as far as the windows go.
func (s *Side) sayWaiting() {
	// Those that are done leave the queue meanwhile.
	for _, id := range slices.Clone(s.queue) {
		s.sayLane(id, s.lanes[id])
	}
}

// sayLane says what waits of one stream, as far as both windows go; it leaves the queue when nothing is left.
func (s *Side) sayLane(id int, l *lane) {
	for l.waits() {
		n := s.room(l)
		if n == 0 && len(l.wait) > 0 {
			return
		}
		s.sayPiece(id, l, n)
	}
	l.wait = nil // so that the memory of what has gone is not kept
	s.leave(id)
}

// room tells how many bytes may go in the next piece. A window may be below 0.
func (s *Side) room(l *lane) int {
	return max(0, min(len(l.wait), api.MaxFrame, s.all.Left(), l.window.Left()))
}

// sayPiece says n bytes that wait; with the last ones the end that waits.
func (s *Side) sayPiece(id int, l *lane, n int) {
	f := api.Frame{Kind: api.Data, Stream: id, Body: l.wait[:n]}
	last := l.end && n == len(l.wait)
	if last {
		f.Flags = api.End
		l.end = false
	}
	s.say(f)
	// An end alone takes nothing, so that it goes even where a window is below 0 and has not 0 to take.
	if n > 0 {
		s.all.Take(n)
		l.window.Take(n)
	}
	l.wait = l.wait[n:]
	if last {
		s.ended(id)
	}
}

// leave the queue.
func (s *Side) leave(id int) {
	s.queue = slices.DeleteFunc(s.queue, func(other int) bool { return other == id })
}
