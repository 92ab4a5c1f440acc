package client

import (
	"fmt"
	"strings"
	"testing"

	"tollgate/api"
	"tollgate/fields"
	"tollgate/head"
	"tollgate/plain"
)

// K2: a reply that came whole, with and without a body; it is told as often as it is asked.
func TestReply(t *testing.T) {
	x := api.Field{Name: "x", Value: "y"}
	for name, x := range map[string]struct {
		l    []api.Frame
		want api.Reply
	}{
		"a head":          {[]api.Frame{hd(1, true, code200)}, api.Reply{Code: 200}},
		"fields":          {[]api.Frame{hd(1, true, code404+added+newest)}, api.Reply{Code: 404, Fields: []api.Field{x, x}}},
		"length":          {[]api.Frame{hd(1, true, code404+"\x47\x0277"+added)}, api.Reply{Code: 404, Fields: []api.Field{x}}},
		"a body":          {[]api.Frame{hd(1, false, code200), data(1, true, some(9))}, api.Reply{Code: 200, Body: some(9)}},
		"an end alone":    {[]api.Frame{hd(1, false, code200), data(1, true, nil)}, api.Reply{Code: 200}},
		"a body, two":     {[]api.Frame{hd(1, false, code200), data(1, false, some(9)[:4]), data(1, true, some(9)[4:])}, api.Reply{Code: 200, Body: some(9)}},
		"a body ahead":    {[]api.Frame{data(1, false, some(9)), hd(1, true, code200)}, api.Reply{Code: 200, Body: some(9)}},
		"fields behind":   {[]api.Frame{hd(1, false, code200), data(1, false, some(9)), hd(1, true, added)}, api.Reply{Code: 200, Fields: []api.Field{x}, Body: some(9)}},
		"MaxBody":         {append([]api.Frame{hd(1, false, code200)}, pieces(1, some(api.MaxBody))...), api.Reply{Code: 200, Body: some(api.MaxBody)}},
		"before its time": {[]api.Frame{hd(3, true, code200)}, api.Reply{}},
	} {
		c := fresh(t, get, post(2001))
		c.hears(x.l...)
		if x.want.Code == 0 {
			c.noReply(1, api.ErrShort)
			c.replied(3, api.Reply{Code: 200})
			continue
		}
		for range 3 {
			c.replied(1, x.want)
		}
		c.isOpen(3)
		if t.Failed() {
			t.Fatal(name)
		}
	}
}

// K2: chapter 11's errors, as often as it is asked; the others are told as they are.
func TestReplyWrong(t *testing.T) {
	for name, x := range map[string]struct {
		l    []api.Field
		n    int
		want api.Errno
	}{
		"no fields":         {nil, 0, api.ErrShape},
		"no :code":          {[]api.Field{{Name: "a", Value: "b"}}, 5, api.ErrShape},
		":code is second":   {[]api.Field{{Name: "a", Value: "b"}, {Name: ":code", Value: "200"}}, 0, api.ErrShape},
		"another one":       {[]api.Field{{Name: ":code", Value: "200"}, {Name: ":path", Value: "/"}}, 0, api.ErrShape},
		"twice":             {[]api.Field{{Name: ":code", Value: "200"}, {Name: ":code", Value: "200"}}, 0, api.ErrShape},
		"no digits":         {[]api.Field{{Name: ":code", Value: "2x0"}}, 0, api.ErrSyntax},
		"600":               {[]api.Field{{Name: ":code", Value: "600"}}, 0, api.ErrSyntax},
		"a great letter":    {[]api.Field{{Name: ":code", Value: "200"}, {Name: "A", Value: "b"}}, 0, api.ErrSyntax},
		"host":              {[]api.Field{{Name: ":code", Value: "200"}, {Name: "host", Value: "b"}}, 0, api.ErrShape},
		"MaxBody and one":   {[]api.Field{{Name: ":code", Value: "200"}, {Name: "host", Value: "b"}}, api.MaxBody + 1, api.ErrFull},
		"more in a piece":   {[]api.Field{{Name: ":code", Value: "200"}}, -1, api.ErrFull},
		"much more than it": {[]api.Field{{Name: ":code", Value: "200"}}, 5 * api.MaxBody, api.ErrFull},
	} {
		coder, _ := head.New(api.MaxTable)
		block, err := coder.Encode(x.l)
		if err != nil {
			t.Fatal(err)
		}
		c := fresh(t, get, get)
		c.hears(hd(1, x.n == 0, string(block)))
		if x.n < 0 {
			l := pieces(1, some(api.MaxBody))
			l[len(l)-1].Flags = 0
			c.hears(append(l, data(1, true, some(1)))...)
			x.n = api.MaxBody + 1
		} else if x.n > 0 {
			c.hears(pieces(1, some(x.n))...)
		}
		for range 2 {
			c.noReply(1, x.want)
			if _, err := fields.Reply(x.l, some(x.n)); plain.Told(err) != x.want {
				t.Errorf("chapter 11 says %v", err)
			}
		}
		c.isOpen(3)
		c.hears(hd(3, true, code200))
		c.replied(3, api.Reply{Code: 200})
		if t.Failed() {
			t.Fatal(name)
		}
	}
}

// K2: the fields of two heads count together.
func TestReplyTwoHeads(t *testing.T) {
	c := fresh(t, get, get)
	c.hears(hd(1, false, code200), hd(1, true, code200))
	c.noReply(1, api.ErrShape)
	c.hears(hd(3, false, code200+strings.Repeat("\x88", 30)), hd(3, true, strings.Repeat("\x88", 11)))
	c.noReply(3, api.ErrFull)
}

// K2: a stream that was never asked.
func TestReplyNone(t *testing.T) {
	c := fresh(t)
	for _, id := range []int{0, 1, 2, 3, -1, -3, 1<<63 - 1, -1 << 63} {
		c.noReply(id, api.ErrNone)
	}
	c.asks(get, get)
	c.noReply(1, api.ErrShort)
	c.noReply(3, api.ErrShort)
	for _, id := range []int{0, 2, 4, 5, -1, -3, 1<<63 - 1, -1 << 63} {
		c.noReply(id, api.ErrNone)
	}
	c.hears(farewell(0, 0)) // ErrNone goes ahead of ErrState
	for _, id := range []int{0, 2, 4, 5, -1} {
		c.noReply(id, api.ErrNone)
	}
}

// K2: Bye with a stream below it, and what is at it or below.
func TestReplyBye(t *testing.T) {
	for last := range 8 {
		c := fresh(t, get, get, get)
		c.hears(hd(3, true, code200), farewell(last, 1))
		for _, id := range []int{1, 3, 5} {
			switch {
			case last < id:
				c.noReply(id, api.ErrState)
			case id == 3:
				c.replied(id, api.Reply{Code: 200})
			default:
				c.noReply(id, api.ErrShort)
			}
		}
		c.isOpen(1, 5) // neither whole nor stopped
		// It is heard on.
		c.hears(hd(5, true, code200), data(1, true, some(3)))
		c.isOpen()
		if last >= 5 {
			c.replied(5, api.Reply{Code: 200})
		} else {
			c.noReply(5, api.ErrState)
		}
	}
	// Of several each counts.
	for _, l := range [][]api.Frame{{farewell(1, 1), farewell(5, 2)}, {farewell(5, 1), farewell(1, 2)}, {farewell(api.MaxWord, 1), farewell(2, 2)}} {
		c := fresh(t, get, get)
		c.hears(l...)
		c.noReply(1, api.ErrShort)
		c.noReply(3, api.ErrState)
	}
	c := fresh(t, get)
	c.hears(fr(api.Bye, 0, 0, "\xff\xff\xff\xff1234"))
	c.noReply(1, api.ErrShort)
}

// K2: ErrState of one that was stopped.
func TestReplyStopped(t *testing.T) {
	c := fresh(t, get, get)
	c.hears(stop(1), farewell(1, 0))
	c.noReply(1, api.ErrState)
	c.noReply(3, api.ErrState)
	c.isOpen(3)
}

// K2: Open is rising, without those that are whole or stopped.
func TestOpen(t *testing.T) {
	c := fresh(t)
	c.isOpen()
	var want []int
	for i := range api.MaxStreams {
		c.asks(get)
		want = append(want, 2*i+1)
		c.isOpen(want...)
	}
	for i := 0; len(want) > 0; i++ {
		at := (i * 5) % len(want)
		id := want[at]
		c.hears([]api.Frame{hd(id, true, code200), stop(id), data(id, true, nil), hd(id, true, "")}[i%4])
		want = append(want[:at], want[at+1:]...)
		c.isOpen(want...)
	}
	c.asks(get)
	c.hears(hd(33, false, code200), data(33, false, some(3)))
	c.isOpen(33)
}

// K2: the code of the last Bye.
func TestCode(t *testing.T) {
	c := fresh(t)
	for _, x := range []struct {
		body string
		want int
	}{
		{word(9) + word(3), 3},
		{word(3) + word(9), 9},
		{word(0) + word(0), 0},
		{word(0) + word(api.MaxWord) + "more of it", api.MaxWord},
		{word(0) + "\xff\xff\xff\xff", 1<<32 - 1},
		{string(some(1024)), int(some(8)[4])<<24 | int(some(8)[5])<<16 | int(some(8)[6])<<8 | int(some(8)[7])},
	} {
		if x.want == 3 && c.Code() != 0 {
			t.Errorf("no Bye: got %d", c.Code())
		}
		c.hears(fr(api.Bye, 255, 0, x.body))
		if got := c.Code(); got != x.want {
			t.Errorf("%x: got %d, want %d", x.body[:8], got, x.want)
		}
		c.says()
	}
}

// Many requests, one behind the other: what is whole stays.
func TestMany(t *testing.T) {
	c := fresh(t)
	for i := range 3000 {
		c.asks(post(i % 5))
		c.hears(hd(2*i+1, false, code200), data(2*i+1, true, fmt.Append(nil, i)), wide(0, 5))
	}
	for i := range 3000 {
		c.replied(2*i+1, api.Reply{Code: 200, Body: fmt.Append(nil, i)})
	}
	c.isOpen()
}
