package client

import (
	"bytes"
	"slices"
	"strings"
	"testing"

	"tollgate/api"
	"tollgate/frame"
)

// twoReplies come on 1 and 5, and one that is not whole on 3, in turns.
func twoReplies() []api.Frame {
	return []api.Frame{
		set(api.SetTable, 100),
		fr(api.Head, 0, 5, code404),
		fr(api.More, 0, 5, added[:3]),
		fr(api.More, api.Whole, 5, added[3:]),
		hd(3, false, code200),
		data(5, false, some(1024)),
		data(3, false, some(7)),
		hd(1, false, code200+newest+newest),
		fr(77, 255, 9, "what"),
		data(5, false, nil),
		data(1, false, some(30)),
		fr(api.Ping, 0, 0, "12345678"),
		data(5, true, some(100)),
		data(1, true, nil),
		farewell(5, 4),
	}
}

func checkTwoReplies(c talk) {
	c.t.Helper()
	x := api.Field{Name: "x", Value: "y"}
	c.replied(1, api.Reply{Code: 200, Fields: []api.Field{x, x}, Body: some(30)})
	c.replied(5, api.Reply{Code: 404, Fields: []api.Field{x}, Body: slices.Concat(some(1024), some(100))})
	c.noReply(3, api.ErrShort)
	c.isOpen(3)
	if c.Code() != 4 {
		c.t.Errorf("Code: got %d", c.Code())
	}
	c.says(
		setEnd(), wide(0, 1024), wide(5, 1024), wide(0, 7), wide(3, 7), wide(0, 30), wide(1, 30),
		fr(api.Ping, api.End, 0, "12345678"), wide(0, 100),
	)
}

// K1: heads and bodies of several streams, in whatever pieces the bytes come.
func TestFeedPieces(t *testing.T) {
	b := bytesOf(t, twoReplies()...)
	for cut := range len(b) + 1 {
		c := fresh(t, get, post(4), get)
		c.is(c.Feed(b[:cut]), api.OK)
		c.is(c.Feed(nil), api.OK)
		c.is(c.Feed(b[cut:]), api.OK)
		checkTwoReplies(c)
	}
	for _, n := range []int{1, 2, 3, 8, 9, 10, 500} {
		c := fresh(t, get, post(4), get)
		for p := range slices.Chunk(b, n) {
			c.is(c.Feed(p), api.OK)
		}
		checkTwoReplies(c)
	}
}

// K1: each frame is heard as soon as its last byte has come.
func TestFeedAtOnce(t *testing.T) {
	c := fresh(t, get)
	b := bytesOf(t, hd(1, true, code200))
	c.is(c.Feed(b[:len(b)-1]), api.OK)
	c.noReply(1, api.ErrShort)
	c.is(c.Feed(b[len(b)-1:]), api.OK)
	c.replied(1, api.Reply{Code: 200})
}

// K1: nothing has to come first.
func TestFeedFirst(t *testing.T) {
	c := fresh(t, get)
	c.hears(hd(1, true, code200))
	c.replied(1, api.Reply{Code: 200})
	c.says()
}

// K1: for a body that comes a Wide for the connection and one for the stream, if that has not ended.
func TestFeedGrants(t *testing.T) {
	c := fresh(t, get, get, get)
	c.hears(hd(1, false, code200))
	c.says()
	for _, n := range []int{1, 2, 1023, 1024} {
		c.hears(data(1, false, some(n)))
		c.says(wide(0, n), wide(1, n))
	}
	c.hears(data(1, false, nil))
	c.says()
	c.hears(data(1, true, some(9)))
	c.says(wide(0, 9))
	c.hears(hd(3, false, code200), data(3, true, nil))
	c.says()
	c.hears(data(5, false, some(1024)), data(5, false, some(1024)), data(5, false, some(1024)))
	c.says(wide(0, 1024), wide(5, 1024), wide(0, 1024), wide(5, 1024), wide(0, 1024), wide(5, 1024))
	// Of a stream that was stopped what still comes is granted to all alone.
	c.hears(stop(5), data(5, false, some(8)), data(5, true, some(9)), data(5, false, nil))
	c.says(wide(0, 8), wide(0, 9))
}

// K1: a stream that was stopped: what still comes is passed over, but heads are decoded.
func TestFeedStopped(t *testing.T) {
	c := fresh(t, get, post(5))
	c.hears(stop(1), hd(1, false, code200+added), hd(1, true, newest), data(1, true, some(3)), hd(1, true, code404), stop(1), wide(1, api.MaxWord), wide(1, api.MaxWord))
	c.noReply(1, api.ErrState)
	c.isOpen(3)
	c.hears(hd(3, true, code200+newest))
	c.replied(3, api.Reply{Code: 200, Fields: []api.Field{{Name: "x", Value: "y"}}})
	// So are those that are not whole when it comes, and in several frames.
	c = fresh(t, get, get)
	c.hears(hd(1, false, code200), data(1, false, some(5)), stop(1), fr(api.Head, 0, 1, added[:2]), fr(api.More, api.Whole, 1, added[2:]))
	c.hears(hd(3, true, code404+newest))
	c.replied(3, api.Reply{Code: 404, Fields: []api.Field{{Name: "x", Value: "y"}}})
	c.noReply(1, api.ErrState)
}

// K1: Set is answered, unless it has End; SetTable is told to the Coder, to MaxTable at most; others are nothing.
func TestFeedSet(t *testing.T) {
	field := api.Request{Method: "GET", Path: "/", Host: "hh", Fields: []api.Field{{Name: "x", Value: "y"}}}
	c := fresh(t)
	c.hears(set(), setEnd(), set(api.SetStreams, 1, api.SetFrame, api.MaxFrame, 2, 0, 9, 9, api.SetFrame, api.MaxWord))
	c.says(setEnd(), setEnd())
	c.asks(field)
	c.says(hd(1, true, "\x81\x83\x44\x02hh"+added))
	c.hears(set(api.SetTable, 73)) // just the sizes of both
	c.asks(field)
	c.says(setEnd(), hd(3, true, "\x3f\x2a\x81\x83\x8e\x8d"))
	c.hears(set(api.SetTable, 72))
	c.asks(field)
	c.says(setEnd(), hd(5, true, "\x3f\x29\x81\x83\x44\x02hh"+added))
	c.hears(set(api.SetTable, 0, api.SetTable, 5000))
	c.asks(field)
	c.says(setEnd(), hd(7, true, "\x20\x3f\xe1\x1f\x81\x83\x44\x02hh"+added))
	c.asks(field)
	c.says(hd(9, true, "\x81\x83\x8e\x8d"))
	// The table for what comes stays.
	c.hears(set(api.SetTable, 0), hd(1, true, code200+added), hd(3, true, code200+newest))
	c.replied(3, api.Reply{Code: 200, Fields: []api.Field{{Name: "x", Value: "y"}}})
}

// K1: a size for the table for what comes is MaxTable at most.
func TestFeedSize(t *testing.T) {
	c := fresh(t, get, get)
	c.hears(hd(1, true, "\x3f\xe1\x1f"+code200))
	c.replied(1, api.Reply{Code: 200})
	c.fails(hd(3, true, "\x3f\xe2\x1f"+code200))
}

// K1: Ping is answered with the same Body, unless it is an answer; other Kinds are passed over.
func TestFeedPing(t *testing.T) {
	c := fresh(t, get)
	c.hears(fr(api.Ping, 0, 0, "12345678"), fr(api.Ping, 254, 0, "\x00\xff\x00\xff\x00\xff\x00\xff"))
	c.says(fr(api.Ping, api.End, 0, "12345678"), fr(api.Ping, api.End, 0, "\x00\xff\x00\xff\x00\xff\x00\xff"))
	c.hears(fr(api.Ping, api.End, 0, "12345678"), fr(api.Ping, 255, 0, "12345678"))
	c.says()
	was := c.told()
	for kind := 8; kind < 256; kind++ {
		for _, id := range []int{0, 1, 2, 3, api.MaxWord} {
			c.hears(fr(kind, kind, id, ""), fr(kind, 5, id, string(some(1024))))
		}
	}
	c.says()
	if c.told() != was {
		t.Error("a Kind that is none is heard")
	}
}

// K1: a stream is stopped: it is no more Open, and its reply does not come.
func TestFeedStop(t *testing.T) {
	c := fresh(t, get, get, get)
	c.hears(stop(3))
	c.says()
	c.isOpen(1, 5)
	c.noReply(3, api.ErrState)
	c.hears(hd(5, false, code200), fr(api.Stop, 255, 5, "\xff\xff\xff\xff"))
	c.isOpen(1)
	c.noReply(5, api.ErrState)
	c.noReply(1, api.ErrShort)
}

// K1: windows of the connection and of streams up to MaxWindow.
func TestFeedWide(t *testing.T) {
	c := fresh(t, get, post(10))
	c.hears(wide(0, api.MaxWindow-2000+10), wide(1, api.MaxWindow-2000), wide(3, api.MaxWindow-2000+10))
	c.hears(set(api.SetWindow, 2000), set(api.SetWindow, 1999))
	c.hears(wide(1, 1))
	c.fails(wide(1, 1))
	// One whose reply is whole has a window till its request has gone, and none then.
	c = fresh(t, post(2100))
	c.hears(wide(1, api.MaxWindow), hd(1, true, code200), set(api.SetWindow, 2000))
	c.fails(set(api.SetWindow, 2001))
	c = fresh(t, post(2100))
	c.hears(wide(1, api.MaxWindow), hd(1, true, code200), wide(0, 100), set(api.SetWindow, 5000))
	c.says(data(1, true, some(2100)[2000:]), setEnd())
	// As has one that was stopped, or has gone ahead of its reply.
	c = fresh(t, get, get)
	c.hears(wide(1, 1000), wide(3, 1000), stop(1), hd(3, true, code200), set(api.SetWindow, api.MaxWindow))
	c.says(setEnd())
}

// K1: each thing that is wrong, where of 3 the last byte waits and both its windows are full.
func TestFeedWrong(t *testing.T) {
	for name, l := range map[string][]api.Frame{
		"Check: Data of 0":            {data(0, false, nil)},
		"Check: Head of 0":            {hd(0, false, code200)},
		"Check: Stop of 0":            {stop(0)},
		"Check: Set of 1":             {fr(api.Set, 0, 1, "")},
		"Check: Ping of 1":            {fr(api.Ping, 0, 1, "12345678")},
		"Check: Bye of 1":             {fr(api.Bye, 0, 1, "12345678")},
		"Check: Stop of 3 bytes":      {fr(api.Stop, 0, 1, "123")},
		"Check: Set of 5 bytes":       {fr(api.Set, 0, 0, "12345")},
		"Check: Set with both":        {fr(api.Set, api.End, 0, "123456")},
		"Check: Ping of 7 bytes":      {fr(api.Ping, 0, 0, "1234567")},
		"Check: Ping of 9 bytes":      {fr(api.Ping, api.End, 0, "123456789")},
		"Check: Bye of 7 bytes":       {fr(api.Bye, 0, 0, "1234567")},
		"Check: Wide of 3 bytes":      {fr(api.Wide, 0, 1, "123")},
		"Check: Wide by 0":            {wide(0, 0)},
		"Check: Wide of 1 by 0":       {wide(1, 0)},
		"Check: Wide above":           {fr(api.Wide, 0, 0, "\x80\x00\x00\x00")},
		"Check: SetWindow":            {set(api.SetWindow, api.MaxWindow+1)},
		"Check: SetFrame":             {set(api.SetFrame, api.MaxFrame-1)},
		"a head: no such number":      {hd(1, true, newest)},
		"a head: 0":                   {hd(1, false, "\x80")},
		"a head: cut":                 {hd(1, false, added[:4])},
		"a head: cut in More":         {fr(api.Head, 0, 1, added[:3]), fr(api.More, api.Whole, 1, added[3:4])},
		"a head: a size behind":       {hd(1, false, code200+"\x20")},
		"a head: 41 fields":           {hd(1, false, strings.Repeat("\x84", 41))},
		"a head: of a stopped stream": {stop(1), hd(1, false, newest)},
		"a head: of a second one":     {hd(1, false, code200), hd(1, false, newest)},
		"More: of no head":            {fr(api.More, api.Whole, 1, code200)},
		"More: of a whole head":       {hd(1, false, code200), fr(api.More, api.Whole, 1, "")},
		"More: of another stream":     {fr(api.Head, 0, 1, code200), fr(api.More, api.Whole, 3, "")},
		"More: a Head is there":       {fr(api.Head, 0, 1, code200), hd(1, true, code200)},
		"More: Data is there":         {fr(api.Head, 0, 1, code200), data(1, false, nil)},
		"More: Data of another":       {fr(api.Head, 0, 1, code200), data(3, false, nil)},
		"More: Set is there":          {fr(api.Head, 0, 1, code200), set()},
		"More: Ping is there":         {fr(api.Head, 0, 1, code200), fr(api.Ping, 1, 0, "12345678")},
		"More: Wide is there":         {fr(api.Head, 0, 1, code200), wide(0, 1)},
		"More: Stop is there":         {fr(api.Head, 0, 1, code200), stop(1)},
		"More: Bye is there":          {fr(api.Head, 0, 1, code200), farewell(9, 1)},
		"More: no Kind is there":      {fr(api.Head, 0, 1, code200), fr(8, 0, 0, "")},
		"never asked: Head":           {hd(5, true, code200)},
		"never asked: Head, not all":  {fr(api.Head, 0, 5, "")},
		"never asked: Data":           {data(5, false, nil)},
		"never asked: Stop":           {stop(5)},
		"never asked: Wide":           {wide(5, 1)},
		"never asked: even":           {hd(2, true, code200)},
		"never asked: even, Data":     {data(2, true, some(2))},
		"never asked: even, Stop":     {stop(2)},
		"never asked: even, Wide":     {wide(2, 1)},
		"never asked: MaxWord":        {wide(api.MaxWord, 1)},
		"whole: Head":                 {hd(1, true, code200), hd(1, true, code200)},
		"whole: Head, not all":        {hd(1, true, code200), fr(api.Head, 0, 1, "")},
		"whole: Data":                 {hd(1, true, code200), data(1, false, some(2))},
		"whole: empty Data":           {hd(1, false, code200), data(1, true, some(2)), data(1, false, nil)},
		"whole: Stop":                 {hd(1, true, code200), stop(1)},
		"whole: Wide":                 {hd(1, true, code200), wide(1, 1)},
		"whole: its request waits":    {hd(3, true, code200), wide(3, 1)},
		"above: the connection":       {wide(0, api.MaxWindow), wide(0, 1)},
		"above: at once":              {wide(1, api.MaxWindow-2000+1)},
		"above: the request waits":    {wide(3, api.MaxWindow), wide(3, 1)},
		"above: SetWindow":            {wide(1, 1), set(api.SetWindow, api.MaxWindow)},
		"above: one of two settings":  {wide(1, 1), set(api.SetWindow, api.MaxWindow, api.SetWindow, 5)},
	} {
		fresh(t, get, post(2001)).fails(l...)
		if t.Failed() {
			t.Fatal(name)
		}
	}
}

// K1: what Read finds wrong, as soon as nine bytes are there.
func TestFeedRead(t *testing.T) {
	for _, b := range []string{
		"\x00\x04\x01\x00\x00\x00\x00\x00\x01",
		"\xff\xff\xff\x08\x00\x00\x00\x00\x00",
		"\x00\x00\x00\x00\x00\x80\x00\x00\x01",
		"\x00\x00\x05\x08\x00\xff\xff\xff\xff",
	} {
		for cut := range len(b) {
			c := fresh(t, get)
			c.is(c.Feed([]byte(b[:cut])), api.OK)
			c.failsBy([]byte(b[cut:]))
		}
		// Within a head too.
		c := fresh(t, get)
		c.hears(fr(api.Head, 0, 1, code200))
		c.failsBy([]byte(b))
	}
}

// K1: what stands ahead of what is wrong is heard, and answered; what stands behind it is not.
func TestFeedWrongWithin(t *testing.T) {
	c := fresh(t, get, get)
	b := bytesOf(t, set(), hd(1, true, code200), data(3, false, some(5)), wide(0, 0), fr(api.Ping, 0, 0, "12345678"), hd(3, true, code200), farewell(0, 7))
	c.is(c.Feed(b), api.ErrSyntax)
	c.says(setEnd(), wide(0, 5), wide(3, 5))
	c.replied(1, api.Reply{Code: 200})
	c.noReply(3, api.ErrShort)
	c.isOpen(3)
	if c.Code() != 0 {
		t.Errorf("Code: got %d", c.Code())
	}
	c.is(c.Feed(bytesOf(t, hd(3, true, code200))), api.ErrState)
	c.noReply(3, api.ErrShort)
}

// K1: a head of many frames, also of empty ones.
func TestFeedManyFrames(t *testing.T) {
	c := fresh(t, get)
	l := []api.Frame{fr(api.Head, api.End, 1, "")}
	for range 40 {
		l = append(l, fr(api.More, 0, 1, ""))
	}
	// End of a More means nothing, nor that it has none.
	c.hears(append(l, fr(api.More, api.Whole, 1, code200))...)
	c.replied(1, api.Reply{Code: 200})
	c = fresh(t, get)
	c.hears(fr(api.Head, 0, 1, code200), fr(api.More, api.Whole|api.End, 1, ""))
	c.noReply(1, api.ErrShort)
}

// K1, K2: n of Grant, and the Wide of 0.
func TestGrant(t *testing.T) {
	c := fresh(t)
	for _, n := range []int{1, 2, 2000, api.MaxWord - 1, api.MaxWord, api.MaxWord} {
		c.is(c.Grant(n), api.OK)
		c.says(wide(0, n))
	}
	for _, n := range []int{0, -1, api.MaxWord + 1, 1 << 32, 1<<63 - 1, -1 << 63} {
		c.is(c.Grant(n), api.ErrRange)
		c.says()
	}
	b := bytesOf(t, wide(0, 258))
	c.is(c.Grant(258), api.OK)
	if got := c.Out(); !bytes.Equal(got, b) {
		t.Errorf("got %x, want %x", got, b)
	}
	if f, _, err := frame.Read(b); err != nil || f.Stream != 0 {
		t.Fatal(f, err)
	}
}
