// Package side has what both sides of a connection do alike: how frames come, and how what is said goes out.
package side

import (
	"tollgate/api"
	"tollgate/flow"
	"tollgate/frame"
	"tollgate/head"
	"tollgate/wire"
)

// wordBytes of a number in the Body of a Stop, a Bye or a Wide.
const wordBytes = 4

// Side of a connection.
type Side struct {
	rest  []byte // what came of a frame that is not all there
	said  []byte // what the next Out takes away
	block block  // the head that is not whole yet
	coder *head.Coder

	all   *flow.Window     // of the connection, for what goes out
	first int              // what SetWindow said last
	lanes map[int]*lane    // of the streams that are open
	queue []int            // the streams of which something waits, the one that waited first ahead
	ended func(stream int) // is told when the end of a body has gone out
}

// New begins one, which says Set first. It tells ended of each stream whose body has gone out to its end.
func New(ended func(stream int)) *Side {
	coder, _ := head.New(api.MaxTable) // a Table may have as much
	s := &Side{
		coder: coder,
		all:   window(api.Window),
		first: api.Window,
		lanes: map[int]*lane{},
		ended: ended,
	}
	s.say(api.Frame{Kind: api.Set})
	return s
}

// Out takes what goes out.
func (s *Side) Out() []byte {
	b := s.said
	s.said = nil
	return b
}

// SayHead says a head: chapter 4's errors of Encode.
func (s *Side) SayHead(id int, l []api.Field, end bool) error {
	block, err := s.coder.Encode(l)
	if err != nil {
		return err
	}
	for _, f := range frame.Split(id, block, end) {
		s.say(f)
	}
	return nil
}

// SayWords says a frame whose Body are numbers, each from 0 to MaxWord.
func (s *Side) SayWords(kind, id int, numbers ...int) {
	f := api.Frame{Kind: kind, Stream: id}
	for _, n := range numbers {
		b, _ := wire.Big(n, wordBytes)
		f.Body = append(f.Body, b...)
	}
	s.say(f)
}

// say a frame that is right: a stream's number is from 0 to MaxWord, and Bodies are cut ahead of this.
func (s *Side) say(f api.Frame) {
	b, _ := frame.Encode(f)
	s.said = append(s.said, b...)
}

// window of a number that a window may have.
func window(n int) *flow.Window {
	w, _ := flow.New(n)
	return w
}
