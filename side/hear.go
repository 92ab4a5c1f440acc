package side

import (
	"bytes"
	"errors"
	"iter"

	"tollgate/api"
	"tollgate/frame"
)

// block is a head that is not whole yet; of no frames: there is none.
type block struct {
	stream, frames int
	end            bool
	bytes          []byte
}

// Head that came whole.
type Head struct {
	Stream int
	Fields []api.Field
	End    bool
}

// Frames that are all there with these bytes, one by one. One that Read finds wrong is the last. Who breaks off is of no use any more: what came behind is forgotten.
func (s *Side) Frames(b []byte) iter.Seq2[api.Frame, error] {
	return func(yield func(api.Frame, error) bool) {
		all := append(s.rest, b...)
		s.rest = nil
		left := all
		for {
			f, used, err := frame.Read(left)
			if errors.Is(err, api.ErrShort) {
				break
			}
			if !yield(f, err) || err != nil {
				return
			}
			left = left[used:]
		}
		if len(left) < len(all) {
			left = bytes.Clone(left) // so that the memory of what is heard is not kept
		}
		s.rest = left
	}
}

// InTurn tells whether a frame may follow: More of its stream a head that is not whole, and nothing else that.
func (s *Side) InTurn(f api.Frame) bool {
	if s.block.frames == 0 {
		return f.Kind != api.More
	}
	return f.Kind == api.More && f.Stream == s.block.stream
}

// Gathered frames of the head that is not whole yet; 0: there is none.
func (s *Side) Gathered() int { return s.block.frames }

// Gather a Head or a More that is in turn. When it makes the head whole that is decoded: chapter 4's errors of Decode.
func (s *Side) Gather(f api.Frame) (h Head, whole bool, err error) {
	if f.Kind == api.Head {
		s.block = block{stream: f.Stream, end: Ends(f)}
	}
	s.block.frames++
	s.block.bytes = append(s.block.bytes, f.Body...)
	if f.Flags&api.Whole == 0 {
		return Head{}, false, nil
	}
	b := s.block
	s.block = block{}
	l, err := s.coder.Decode(b.bytes)
	if err != nil {
		return Head{}, false, err
	}
	return Head{Stream: b.stream, Fields: l, End: b.end}, true, nil
}

// Set hears a Set: ErrOver: a window would be above MaxWindow.
func (s *Side) Set(f api.Frame) error {
	if Ends(f) {
		return nil
	}
	for pair := range frame.Settings(f.Body) {
		switch pair[0] {
		case api.SetWindow:
			if err := s.shift(pair[1]); err != nil {
				return err
			}
		case api.SetTable:
			s.coder.Resize(min(pair[1], api.MaxTable))
		}
	}
	// First it is said that the settings hold, then what goes out because they do.
	s.say(api.Frame{Kind: api.Set, Flags: api.End})
	s.sayWaiting()
	return nil
}

// Ping hears a Ping.
func (s *Side) Ping(f api.Frame) {
	if !Ends(f) {
		s.say(api.Frame{Kind: api.Ping, Flags: api.End, Body: f.Body})
	}
}

// Shut it: nothing is heard any more.
func (s *Side) Shut() { s.block = block{} }

// Word is one of the numbers in the Body of a Stop, a Bye or a Wide.
func Word(f api.Frame, at int) int {
	return frame.Number(f.Body[at*wordBytes : (at+1)*wordBytes])
}

// Ends tells whether a frame has End.
func Ends(f api.Frame) bool { return f.Flags&api.End != 0 }
