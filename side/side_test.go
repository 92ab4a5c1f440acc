package side

import (
	"bytes"
	"fmt"
	"slices"
	"strings"
	"testing"

	"tollgate/api"
	"tollgate/frame"
	"tollgate/plain"
)

func word(n int) []byte { return []byte{byte(n >> 24), byte(n >> 16), byte(n >> 8), byte(n)} }

func bytesOf(t *testing.T, l ...api.Frame) (b []byte) {
	t.Helper()
	for _, f := range l {
		x, err := frame.Encode(f)
		if err != nil {
			t.Fatal(err)
		}
		b = append(b, x...)
	}
	return b
}

// said since it was asked last: of each frame its Kind, Flags and Stream, and how many bytes it has.
func said(t *testing.T, s *Side) string {
	t.Helper()
	var l []string
	for b := s.Out(); len(b) > 0; {
		f, n, err := frame.Read(b)
		if err != nil {
			t.Fatal(err)
		}
		l = append(l, fmt.Sprintf("%d/%d/%d*%d", f.Kind, f.Flags, f.Stream, len(f.Body)))
		b = b[n:]
	}
	return strings.Join(l, " ")
}

func says(t *testing.T, s *Side, want string) {
	t.Helper()
	if got := said(t, s); got != want {
		t.Errorf("said %q, want %q", got, want)
	}
}

// fresh has said Set, which is taken away, and tells whose bodies have gone out.
func fresh(t *testing.T) (s *Side, ended *[]int) {
	t.Helper()
	ended = &[]int{}
	s = New(func(id int) { *ended = append(*ended, id) })
	says(t, s, "4/0/0*0")
	says(t, s, "")
	return s, ended
}

func is(t *testing.T, err error, want api.Errno) {
	t.Helper()
	if plain.Told(err) != want {
		t.Errorf("got %v, want %v", err, want)
	}
}

// Frames come in whatever pieces their bytes come.
func TestFrames(t *testing.T) {
	l := []api.Frame{{Kind: 9, Flags: 8, Stream: 7, Body: []byte("abc")}, {Kind: 1}, {Kind: 255, Stream: api.MaxWord, Body: make([]byte, api.MaxFrame)}, {}}
	b := bytesOf(t, l...)
	for _, n := range []int{1, 2, 3, 9, 12, 13, len(b)} {
		s, _ := fresh(t)
		var got []byte
		many := 0
		for p := range slices.Chunk(b, n) {
			for f, err := range s.Frames(p) {
				is(t, err, api.OK)
				got = append(got, bytesOf(t, f)...)
				many++
			}
		}
		if !bytes.Equal(got, b) || many != len(l) {
			t.Errorf("in pieces of %d: %d frames came", n, many)
		}
		if len(s.rest) != 0 {
			t.Errorf("in pieces of %d: %d bytes are kept", n, len(s.rest))
		}
	}
}

// What Read finds wrong is the last that comes; behind a break nothing is kept.
func TestFramesWrong(t *testing.T) {
	for wrong, want := range map[string]api.Errno{
		"\x00\x04\x01\x00\x00\x00\x00\x00\x01": api.ErrFull,
		"\x00\x00\x00\x00\x00\x80\x00\x00\x01": api.ErrOver,
	} {
		s, _ := fresh(t)
		var got []api.Errno
		for _, err := range s.Frames(append(bytesOf(t, api.Frame{}, api.Frame{}), wrong+wrong...)) {
			got = append(got, plain.Told(err))
		}
		if !slices.Equal(got, []api.Errno{api.OK, api.OK, want}) {
			t.Errorf("got %v", got)
		}
	}
	s, _ := fresh(t)
	b := bytesOf(t, api.Frame{}, api.Frame{})
	for range s.Frames(b[:5]) {
		t.Error("a frame comes that is not all there")
	}
	for range s.Frames(b[5:]) {
		break
	}
	for range s.Frames(b[5:9]) {
		t.Error("what was broken off still comes")
	}
}

// A head is gathered from its frames, and they are in turn.
func TestGather(t *testing.T) {
	s, _ := fresh(t)
	more := api.Frame{Kind: api.More, Flags: api.End, Stream: 3, Body: []byte{0x40, 1, 'x'}}
	for i, f := range []api.Frame{{Kind: api.Head, Flags: api.End, Stream: 3, Body: []byte{0x85}}, more} {
		if !s.InTurn(f) || s.Gathered() != i {
			t.Errorf("frame %d is not in turn, behind %d", i, s.Gathered())
		}
		if _, whole, err := s.Gather(f); whole || err != nil {
			t.Errorf("frame %d: got %v, %v", i, whole, err)
		}
		for _, other := range []api.Frame{{Kind: api.More, Stream: 5}, {Kind: api.Head, Stream: 3}, {Kind: api.Data, Stream: 3}, {Kind: 99, Stream: 3}} {
			if s.InTurn(other) {
				t.Errorf("%v is in turn", other)
			}
		}
	}
	h, whole, err := s.Gather(api.Frame{Kind: api.More, Flags: api.Whole, Stream: 3, Body: []byte{1, 'y'}})
	is(t, err, api.OK)
	if want := []api.Field{{Name: ":code", Value: "200"}, {Name: "x", Value: "y"}}; !whole || h.Stream != 3 || !h.End || !slices.Equal(h.Fields, want) {
		t.Errorf("got %v, %v", h, whole)
	}
	if s.Gathered() != 0 || s.InTurn(more) || !s.InTurn(api.Frame{Kind: 99}) {
		t.Error("it is not whole yet")
	}
	h, whole, err = s.Gather(api.Frame{Kind: api.Head, Flags: api.Whole, Stream: 5, Body: []byte{0x99}})
	is(t, err, api.ErrNone)
	if whole || h.Stream != 0 || len(h.Fields) > 0 {
		t.Errorf("got %v, %v", h, whole)
	}
	s.Gather(api.Frame{Kind: api.Head, Stream: 7})
	if s.Shut(); s.Gathered() != 0 {
		t.Error("what is shut still gathers")
	}
}

// What is sent goes as far as both windows go, and tells when its end has gone.
func TestSend(t *testing.T) {
	s, ended := fresh(t)
	s.Open(1)
	s.Open(3)
	s.Send(1, make([]byte, 1500), false)
	says(t, s, "0/0/1*1024 0/0/1*476")
	s.Send(3, make([]byte, 600), true)
	says(t, s, "0/0/3*500")
	if s.Waits(1) || !s.Waits(3) || s.EndWaits(1) || !s.EndWaits(3) || s.Queued(3) != 100 || s.Queued(1)+s.Queued(5) != 0 || s.EndWaits(5) {
		t.Error("other things wait")
	}
	s.Send(1, make([]byte, 5), true)
	is(t, s.Widen(3, 9), api.OK)
	is(t, s.Widen(5, 9), api.OK)
	says(t, s, "")
	is(t, s.Widen(0, 102), api.OK)
	says(t, s, "0/1/3*100 0/0/1*2")
	if !slices.Equal(*ended, []int{3}) {
		t.Errorf("ended: %v", *ended)
	}
	s.Close(1)
	is(t, s.Widen(0, 100), api.OK)
	says(t, s, "")
	if s.Waits(1) || s.EndWaits(1) || s.Queued(1) != 0 {
		t.Error("what is closed still waits")
	}
	s.Send(3, nil, true)
	says(t, s, "0/1/3*0")
	is(t, s.Widen(0, api.MaxWindow), api.ErrOver)
	is(t, s.Widen(3, api.MaxWindow), api.ErrOver)
}

// What ended does is heard while others still wait.
func TestEndedCloses(t *testing.T) {
	var s *Side
	s = New(func(id int) { s.Close(id) })
	said(t, s)
	for _, id := range []int{1, 3, 5} {
		s.Open(id)
		s.Send(id, make([]byte, 1000), true)
	}
	says(t, s, "0/1/1*1000 0/1/3*1000")
	is(t, s.Widen(0, 5000), api.OK)
	says(t, s, "0/1/5*1000")
	if len(s.lanes)+len(s.queue) > 0 {
		t.Error("what is closed is kept")
	}
}

// Set and Ping are answered, unless they are answers.
func TestAnswered(t *testing.T) {
	s, _ := fresh(t)
	s.Open(1)
	s.Send(1, make([]byte, 2001), true)
	is(t, s.Widen(0, 1), api.OK)
	said(t, s)
	window := func(n int) api.Frame {
		return api.Frame{Kind: api.Set, Body: append([]byte{0, api.SetWindow}, word(n)...)}
	}
	is(t, s.Set(api.Frame{Kind: api.Set, Flags: api.End}), api.OK)
	s.Ping(api.Frame{Kind: api.Ping, Flags: api.End, Body: make([]byte, 8)})
	says(t, s, "")
	s.Ping(api.Frame{Kind: api.Ping, Body: make([]byte, 8)})
	is(t, s.Set(window(2001)), api.OK)
	says(t, s, "5/1/0*8 4/1/0*0 0/1/1*1")
	is(t, s.Widen(1, 5), api.OK)
	is(t, s.Set(window(api.MaxWindow)), api.OK) // of it 2001 have gone, and 5 were granted
	is(t, s.Widen(1, 1997), api.ErrOver)
	is(t, s.Set(window(0)), api.OK)
	said(t, s)
	is(t, s.Widen(1, api.MaxWindow), api.OK)
	is(t, s.Set(window(2000)), api.ErrOver)
	says(t, s, "")
}

// Heads and numbers are said as frames, and numbers are read again.
func TestSay(t *testing.T) {
	s, _ := fresh(t)
	is(t, s.SayHead(1, []api.Field{{Name: ":code", Value: "200"}}, true), api.OK)
	is(t, s.SayHead(3, make([]api.Field, api.MaxFields+1), true), api.ErrFull)
	says(t, s, "1/5/1*1")
	s.SayWords(api.Bye, 0, 258, api.MaxWord)
	f, _, err := frame.Read(s.Out())
	is(t, err, api.OK)
	if f.Kind != api.Bye || f.Flags != 0 || f.Stream != 0 || !bytes.Equal(f.Body, append(word(258), word(api.MaxWord)...)) {
		t.Errorf("got %v", f)
	}
	if Word(f, 0) != 258 || Word(f, 1) != api.MaxWord || Ends(f) || !Ends(api.Frame{Flags: 255}) {
		t.Errorf("got %d, %d", Word(f, 0), Word(f, 1))
	}
}
