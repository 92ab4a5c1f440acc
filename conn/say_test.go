package conn

import (
	"fmt"
	"math"
	"strings"
	"testing"

	"tollgate/api"
)

// long is a list that takes more than a frame.
func long() (l []api.Field) {
	for _, c := range []string{"~", "^", "{"} {
		l = append(l, api.Field{Name: "b" + c, Value: strings.Repeat(c, 398)})
	}
	return l
}

// D4: Answer says a head, in as many frames as it needs, with end or not.
func TestAnswer(t *testing.T) {
	c := begun(t, "1/4/1/ 1/5/3/")
	ok := []api.Field{{Name: ":code", Value: "200"}}
	c.ok(c.Answer(1, nil, false))
	c.ok(c.Answer(1, ok, false))
	c.ok(c.Answer(3, ok, false))
	c.ok(c.Answer(1, ok, true))
	c.ok(c.Answer(3, ok, true))
	c.said("1/4/1/ 1/4/1/85 1/4/3/85 1/5/1/85 1/5/3/85")
	c.is(c.Answer(1, ok, false), api.ErrState)
	c.is(c.Answer(3, ok, false), api.ErrState)
	c.said("")
	c.hears("0/0/1/", "Came 1 0")
	c = begun(t, "1/4/1/")
	c.ok(c.Answer(1, long(), false))
	c.said("1/0/1/*1024 2/4/1/*191")
	c.ok(c.Answer(1, long(), true))
	c.said("1/5/1/8f8e8d")
}

// D4: what may be Answered in which state, and Send alike.
func TestSayStates(t *testing.T) {
	for begin, want := range map[string]api.Errno{
		"":                      api.ErrState,
		"1/4/1/":                api.OK,
		"1/5/1/":                api.OK,
		"1/4/3/":                api.ErrState,
		"1/4/1/ 3/0/1/00000000": api.ErrState,
		"1/5/1/ 0/0/1/":         api.ErrState,
	} {
		for _, end := range []bool{false, true} {
			c := begun(t, begin)
			c.is(c.Answer(1, nil, end), want)
			c = begun(t, begin)
			c.is(c.Send(1, some(3), end), want)
			c = begun(t, begin)
			c.is(c.Send(1, nil, end), want)
			if want != api.OK {
				c.said("")
				c.queued(1, 0)
			}
		}
	}
	for _, say := range []func(c talk) error{
		func(c talk) error { return c.Answer(1, nil, true) },
		func(c talk) error { return c.Send(1, nil, true) },
		func(c talk) error { return c.Send(1, some(2000), true) },
		func(c talk) error { return c.Stop(1, 0) },
	} {
		for _, begin := range []string{"1/4/1/", "1/5/1/"} {
			c := begun(t, begin)
			c.ok(say(c))
			c.Out()
			c.is(c.Answer(1, nil, false), api.ErrState)
			c.is(c.Answer(1, nil, true), api.ErrState)
			c.is(c.Send(1, nil, false), api.ErrState)
			c.is(c.Send(1, some(3), true), api.ErrState)
			c.said("")
		}
	}
	for _, id := range []int{0, -1, 2, 5, math.MinInt, math.MaxInt, 1<<32 + 1} {
		c := begun(t, "1/4/1/ 1/4/3/")
		c.is(c.Answer(id, nil, false), api.ErrState)
		c.is(c.Send(id, some(3), false), api.ErrState)
		c.is(c.Stop(id, 0), api.ErrState)
		c.is(c.Used(id, 1), api.ErrRange)
		c.ok(c.Used(id, 0))
		c.queued(id, 0)
		c.said("")
	}
}

// D4: chapter 4's errors of Answer, behind the others; nothing is done then.
func TestAnswerFull(t *testing.T) {
	many := make([]api.Field, api.MaxFields+1)
	heavy := append(long(), long()...)
	text := []api.Field{{Name: "a", Value: strings.Repeat("e", 401)}}
	for _, l := range [][]api.Field{many, heavy, text} {
		for _, end := range []bool{false, true} {
			c := begun(t, "1/5/1/ "+set(api.SetTable, 50))
			c.is(c.Answer(1, l, end), api.ErrFull)
			c.said("")
			c.is(c.Answer(3, l, end), api.ErrState)
			c.ok(c.Send(1, some(2001), false))
			c.is(c.Answer(1, l, end), api.ErrState)
			c.hears(wide(0, 1)+" "+wide(1, 1), "")
			c.Out()
			c.ok(c.Answer(1, []api.Field{{Name: "b-c", Value: "a"}}, true))
			c.said("1/5/1/3f13" + added)
		}
	}
	c := begun(t, "1/4/1/")
	c.ok(c.Answer(1, make([]api.Field, api.MaxFields), false))
}

// D4: nothing is Answered while something of the stream waits: bytes, or bytes and an end.
func TestAnswerWaits(t *testing.T) {
	for _, end := range []bool{false, true} {
		c := begun(t, "1/4/1/ 1/4/3/ "+wide(0, 10000))
		c.ok(c.Answer(1, nil, false))
		c.ok(c.Send(1, some(2000), false))
		c.ok(c.Answer(1, nil, false))
		c.ok(c.Send(1, some(1), end))
		c.Out()
		c.is(c.Answer(1, nil, false), api.ErrState)
		c.is(c.Answer(1, nil, true), api.ErrState)
		c.said("")
		c.ok(c.Answer(3, nil, false))
		c.hears(wide(1, 1), "")
		want := api.OK
		if end {
			want = api.ErrState
		}
		c.is(c.Answer(1, nil, true), want)
	}
}

// D4: the pieces of a body: MaxFrame bytes and one more, an empty one.
func TestSendPieces(t *testing.T) {
	for _, x := range []struct {
		n     int
		end   bool
		frame string
	}{
		{0, false, ""},
		{0, true, "0/1/1/"},
		{1, false, "0/0/1/0d"},
		{1, true, "0/1/1/0d"},
		{1024, false, "0/0/1/*1024"},
		{1024, true, "0/1/1/*1024"},
		{1025, false, "0/0/1/*1024 0/0/1/0d"},
		{1025, true, "0/0/1/*1024 0/1/1/0d"},
		{2048, true, "0/0/1/*1024 0/1/1/*1024"},
		{2049, true, "0/0/1/*1024 0/0/1/*1024 0/1/1/0d"},
		{3000, false, "0/0/1/*1024 0/0/1/*1024 0/0/1/*952"},
	} {
		c := begun(t, "1/4/1/ "+wide(0, 5000)+" "+wide(1, 5000))
		b := some(x.n)
		for i := 1024; i < len(b); i += 1024 {
			b[i] = 0x0d
		}
		c.ok(c.Send(1, b, x.end))
		c.queued(1, 0)
		out := c.Out()
		if got := framesOf(t, out); got != x.frame {
			t.Errorf("Send of %d, %v: got %q, want %q", x.n, x.end, got, x.frame)
		}
		sameBytes(t, bodyOf(t, out, 1), b)
		want := api.OK
		if x.end {
			want = api.ErrState
		}
		c.is(c.Send(1, nil, false), want)
		c.is(c.Answer(1, nil, false), want)
	}
}

// D4: as far as both windows go: one is full, the other, both.
func TestSendWindows(t *testing.T) {
	for _, x := range []struct{ all, one, goes int }{
		{0, 0, 2000}, {500, 0, 2000}, {0, 500, 2000}, {300, 500, 2300}, {500, 300, 2300}, {500, 500, 2500}, {5000, 5000, 3000},
	} {
		c := begun(t, "1/4/1/")
		for id, by := range []int{x.all, x.one} {
			if by > 0 {
				c.hears(wide(id, by), "")
			}
		}
		c.ok(c.Send(1, some(3000), true))
		out := c.Out()
		c.queued(1, 3000-x.goes)
		if ended := strings.Contains(framesOf(t, out), "0/1/1/"); ended != (x.goes == 3000) {
			t.Errorf("%v: ended %v", x, ended)
		}
		c.hears(wide(0, 5000)+" "+wide(1, 5000), "")
		out = append(out, c.Out()...)
		c.queued(1, 0)
		sameBytes(t, bodyOf(t, out, 1), some(3000))
		if got := framesOf(t, out); !strings.Contains(got, " 0/1/1/*") || strings.Count(got, "/1/1/") != 1 {
			t.Errorf("%v: said %q", x, got)
		}
	}
}

// D4: Queued ahead of what waits, while it does and behind it; end with its last piece.
func TestQueued(t *testing.T) {
	c := begun(t, "1/5/1/")
	c.queued(1, 0)
	c.ok(c.Send(1, some(2000), false))
	c.queued(1, 0)
	c.said("0/0/1/*1024 0/0/1/*976")
	c.ok(c.Send(1, some(3), false))
	c.queued(1, 3)
	c.ok(c.Send(1, nil, false))
	c.queued(1, 3)
	c.ok(c.Send(1, some(1100), false))
	c.queued(1, 1103)
	c.ok(c.Send(1, nil, true)) // an end more, and no byte
	c.queued(1, 1103)
	c.said("")
	c.is(c.Send(1, nil, true), api.ErrState)
	c.is(c.Send(1, nil, false), api.ErrState)
	c.is(c.Send(1, some(5), false), api.ErrState)
	c.queued(1, 1103)
	c.hears(wide(0, 2)+" "+wide(1, 1), "")
	c.said("0/0/1/0d")
	c.queued(1, 1102)
	c.hears(wide(1, 1), "")
	c.said("0/0/1/14")
	c.hears(wide(0, 1101)+" "+wide(1, 5000), "")
	c.said("0/0/1/*1024 0/1/1/*77")
	c.queued(1, 0)
	c.is(c.Send(1, nil, false), api.ErrState)
	c.queued(3, 0)
}

// D4: an end with no byte ahead of it takes nothing of the windows.
func TestSendEndAlone(t *testing.T) {
	c := begun(t, "1/4/1/ 1/4/3/")
	c.ok(c.Send(1, some(2000), false))
	c.Out()
	c.ok(c.Send(1, nil, true))
	c.ok(c.Send(3, []byte{}, true))
	c.said("0/1/1/ 0/1/3/")
	// Below 0 too.
	c = begun(t, "1/4/1/")
	c.ok(c.Send(1, some(2000), false))
	c.hears(set(api.SetWindow, 0), "")
	c.Out()
	c.ok(c.Send(1, nil, false))
	c.said("")
	c.ok(c.Send(1, nil, true))
	c.said("0/1/1/")
	c.is(c.Send(1, nil, true), api.ErrState)
	c.hears("0/1/1/", "Came 1 0 end") // it was Theirs
	c.hears("0/1/1/", "Failed 0 5")
}

// D4: the state changes with what goes out, not with what waits.
func TestSendState(t *testing.T) {
	c := begun(t, "1/4/1/")
	c.ok(c.Send(1, some(2001), true))
	c.Out()
	c.hears("0/1/1/ff", "Came 1 0 *1 end") // it was Open, and is Ours
	c.hears(wide(1, 1), "")
	c.said("")
	c.hears(wide(0, 1), "")
	c.said(fmt.Sprintf("0/1/1/%x", some(2001)[2000:]))
	c.hears("0/0/1/", "Failed 0 5")
	// While an end waits, the stream counts as one of MaxStreams.
	c = begun(t, "")
	for i := range api.MaxStreams {
		c.hears(fmt.Sprintf("1/5/%d/", 2*i+1), fmt.Sprintf("Asked %d 0 end", 2*i+1))
	}
	c.ok(c.Send(1, some(2001), true))
	c.hears("1/5/33/", "Reset 33 7")
	c.hears(wide(0, 1)+" "+wide(1, 1)+" 1/5/35/", "Asked 35 0 end")
}

// D4: of several streams that wait the one that waited first goes first, as far as it goes.
func TestTurns(t *testing.T) {
	c := begun(t, "1/4/1/ 1/4/3/ 1/4/5/ 1/4/7/")
	c.ok(c.Send(7, some(2000), false))
	c.Out()
	c.ok(c.Send(5, some(20), false))
	c.ok(c.Send(1, some(30), true))
	c.ok(c.Send(3, some(40), true))
	c.ok(c.Send(7, some(50), true))
	c.ok(c.Send(5, some(25), false)) // it has its place already
	c.hears(wide(0, 5), "")
	c.said(fmt.Sprintf("0/0/5/%x", some(5)))
	c.hears(wide(0, 44), "")
	c.said(fmt.Sprintf("0/0/5/*40 0/0/1/%x", some(4)))
	c.ok(c.Send(5, some(1), false)) // it had gone, and waits anew
	c.hears(wide(0, 27), "")
	c.said(fmt.Sprintf("0/1/1/*26 0/0/3/%x", some(1)))
	c.hears(wide(7, 10), "")
	c.said("")
	c.hears(wide(0, 1000), "")
	c.said(fmt.Sprintf("0/1/3/*39 0/0/7/%x 0/0/5/0d", some(10)))
	for id, n := range map[int]int{1: 0, 3: 0, 5: 0, 7: 40} {
		c.queued(id, n)
	}
	// One whose own window is full keeps nobody behind it.
	c = begun(t, wide(0, 100000)+" 1/4/1/ 1/4/3/")
	c.ok(c.Send(1, some(2010), false))
	c.Out()
	c.ok(c.Send(3, some(5), false))
	c.said(fmt.Sprintf("0/0/3/%x", some(5)))
	c.ok(c.Send(3, some(2000), false))
	c.said("0/0/3/*1024 0/0/3/*971")
	c.hears(set(api.SetWindow, 2005), "")
	c.said(fmt.Sprintf("4/1/0/ 0/0/1/%x 0/0/3/%x", some(2005)[2000:], some(2000)[1995:]))
}

// D4: Stop is said with its code, and what waits is gone.
func TestStop(t *testing.T) {
	for _, code := range []int{0, 1, 5, api.MaxWord} {
		for _, begin := range []string{"1/4/1/", "1/5/1/", "1/4/1/ 3/0/1/00000009", "1/4/3/"} {
			c := begun(t, begin)
			c.ok(c.Stop(1, code))
			c.said(stop(1, code))
			c.ok(c.Stop(1, code)) // of one that is Closed too
			c.said(stop(1, code))
			c.is(c.Answer(1, nil, false), api.ErrState)
		}
	}
	for _, code := range []int{-1, api.MaxWord + 1, math.MinInt, math.MaxInt} {
		c := begun(t, "1/4/1/")
		c.is(c.Stop(1, code), api.ErrRange)
		c.is(c.Stop(3, code), api.ErrRange) // ahead of Say's
		c.is(c.Bye(code), api.ErrRange)
		c.said("")
		c.hears("0/0/1/", "Came 1 0")
		c.is(c.Stop(3, 0), api.ErrState)
		c.is(c.Stop(2, 0), api.ErrState)
		c.is(c.Stop(0, 0), api.ErrState)
		c.said("")
	}
	c := begun(t, "1/4/1/ 1/5/3/")
	c.ok(c.Send(1, some(2010), true))
	c.ok(c.Send(3, some(10), true))
	c.Out()
	c.is(c.Stop(1, -1), api.ErrRange)
	c.queued(1, 10)
	c.ok(c.Stop(1, 2))
	c.queued(1, 0)
	c.queued(3, 10)
	c.hears(wide(0, 100), "")
	c.said(fmt.Sprintf("%s 0/1/3/%x", stop(1, 2), some(10)))
}

// D4: a stream that is stopped makes room for another one.
func TestStopRoom(t *testing.T) {
	c := begun(t, "")
	for i := range api.MaxStreams {
		c.hears(fmt.Sprintf("1/4/%d/", 2*i+1), fmt.Sprintf("Asked %d 0", 2*i+1))
	}
	c.ok(c.Stop(7, 0))
	c.hears("1/4/33/ 1/4/35/", "Asked 33 0; Reset 35 7")
}

// D4: Bye is said with Last, as often as it is called, and all goes on.
func TestBye(t *testing.T) {
	c := begun(t, "")
	c.ok(c.Bye(0))
	c.said(bye(0, 0))
	c.hears("1/4/9/", "Asked 9 0")
	c.ok(c.Bye(api.MaxWord))
	c.ok(c.Bye(7))
	c.said(bye(9, api.MaxWord) + " " + bye(9, 7))
	c.is(c.Bye(-1), api.ErrRange)
	c.is(c.Bye(api.MaxWord+1), api.ErrRange)
	c.said("")
	c.ok(c.Send(9, some(2010), false))
	c.ok(c.Bye(0))
	c.queued(9, 10)
	c.hears("1/5/11/ 0/0/9/ff", "Asked 11 0 end; Came 9 0 *1")
	if c.Over() {
		t.Error("it is over")
	}
}

// D4: Used of more than came, of less than none, twice.
func TestUsedRange(t *testing.T) {
	c := begun(t, "1/4/1/ 1/4/3/ "+data(1, 100, false)+" "+data(1, 20, false)+" "+data(3, 7, false))
	for _, n := range []int{-1, 121, math.MinInt, math.MaxInt} {
		c.is(c.Used(1, n), api.ErrRange)
	}
	c.is(c.Used(3, 8), api.ErrRange)
	c.is(c.Used(5, 1), api.ErrRange)
	c.ok(c.Used(1, 0))
	c.ok(c.Used(1, 119))
	c.is(c.Used(1, 2), api.ErrRange)
	c.ok(c.Used(1, 1))
	c.is(c.Used(1, 1), api.ErrRange)
	c.ok(c.Used(1, 0))
	c.ok(c.Used(3, 7))
	c.is(c.Used(3, 7), api.ErrRange)
	c.said("")
	c.hears("0/0/1/0102", "Came 1 0 *2")
	c.is(c.Used(1, 3), api.ErrRange)
	c.ok(c.Used(1, 2))
}

// D4: a Wide of the connection and of the stream, when less than half is left but for what is not Used.
func TestUsedWide(t *testing.T) {
	for _, x := range []struct{ came, used, by int }{
		{2000, 0, 0}, {2000, 1, 0}, {2000, 1000, 0}, {2000, 1001, 1001}, {2000, 2000, 2000}, {1001, 1001, 1001}, {1000, 1000, 0}, {1500, 1200, 1200},
	} {
		c := begun(t, "1/4/1/ "+data(1, x.came, false))
		c.ok(c.Used(1, x.used))
		if x.by == 0 {
			c.said("")
		} else {
			c.said(wide(0, x.by) + " " + wide(1, x.by))
		}
		c.ok(c.Used(1, 0))
		c.said("")
		// Just so much may come.
		c.hears(data(1, 2000-x.came+x.by, false), toldData(1, 2000-x.came+x.by))
		c.hears("0/0/1/ff", "Failed 0 3")
	}
}

// toldData is what is told of data, of none too.
func toldData(id, n int) string { return strings.TrimSuffix(toldCame(id, n), " *0") }

// D4: little by little; and what is granted is the other side's again.
func TestUsedLittle(t *testing.T) {
	c := begun(t, "1/4/1/ "+data(1, 2000, false))
	for range 10 {
		c.ok(c.Used(1, 100))
	}
	c.said("")
	c.ok(c.Used(1, 1))
	c.said(wide(0, 1001) + " " + wide(1, 1001))
	c.ok(c.Used(1, 999))
	c.said("")
	c.hears("0/0/1/*2", "Came 1 0 *2")
	c.ok(c.Used(1, 1))
	c.said("")
	c.ok(c.Used(1, 1))
	c.said(wide(0, 1001) + " " + wide(1, 1001))
}

// D4: the connection's of several streams, the stream's of its own alone.
func TestUsedSeveral(t *testing.T) {
	c := begun(t, "1/4/1/ 1/4/3/ "+data(1, 600, false)+" "+data(3, 1400, false))
	c.ok(c.Used(1, 600))
	c.said("")
	c.ok(c.Used(3, 401))
	c.said(wide(0, 1001))
	c.ok(c.Used(3, 600))
	c.said(wide(3, 1001))
	c.ok(c.Used(3, 399))
	c.said("")
	c.hears(data(1, 401, false), "Came 1 0 *401")
	c.ok(c.Used(1, 401))
	c.said(wide(0, 1400) + " " + wide(1, 1001))
}

// D4: of a stream that is Open, Theirs, Ours and Closed: its own Wide of the first two alone.
func TestUsedStates(t *testing.T) {
	both := wide(0, 1500) + " " + wide(1, 1500)
	for _, x := range []struct {
		name string
		do   func(c talk)
		want string
	}{
		{"Open", func(c talk) {}, both},
		{"Theirs", func(c talk) { c.ok(c.Answer(1, nil, true)) }, both},
		{"Theirs, by Send", func(c talk) { c.ok(c.Send(1, some(5), true)) }, both},
		{"Open, an end waits", func(c talk) { c.ok(c.Send(1, some(2001), true)) }, both},
		{"Ours", func(c talk) { c.hears("0/1/1/", "Came 1 0 end") }, wide(0, 1500)},
		{"Closed by both", func(c talk) {
			c.ok(c.Answer(1, nil, true))
			c.hears("0/1/1/", "Came 1 0 end")
		}, wide(0, 1500)},
		{"stopped there", func(c talk) { c.hears("3/0/1/00000001", "Reset 1 1") }, wide(0, 1500)},
		{"stopped here", func(c talk) { c.ok(c.Stop(1, 1)) }, wide(0, 1500)},
		{"wrong", func(c talk) { c.hears(wide(1, api.MaxWindow), "Reset 1 3") }, wide(0, 1500)},
	} {
		c := begun(t, "1/4/1/ "+data(1, 1500, false))
		x.do(c)
		c.Out()
		c.is(c.Used(1, 1501), api.ErrRange)
		c.ok(c.Used(1, 1500))
		if got := framesOf(t, c.Out()); got != x.want {
			t.Errorf("%s: said %q, want %q", x.name, got, x.want)
		}
		c.is(c.Used(1, 1), api.ErrRange)
	}
}

// D4: Data that was too much for a stream did not come, so it cannot be Used; but the connection gets it back.
func TestUsedTooMuch(t *testing.T) {
	c := begun(t, "1/4/1/ 1/4/3/ "+data(1, 1000, false)+" "+data(3, 1000, false))
	c.ok(c.Used(3, 1000))
	c.ok(c.Used(1, 1))
	c.Out()
	c.hears("0/0/1/*1001", "Reset 1 3") // of the connection's 1001
	c.Out()
	c.is(c.Used(1, 1000), api.ErrRange)
	c.ok(c.Used(1, 0)) // 999 of 1 are not Used
	c.said(wide(0, 1001))
	c.ok(c.Used(1, 999))
	c.said("")
}

// D4: what a call refuses changes nothing, and Out takes all that was said once.
func TestOutTakes(t *testing.T) {
	c := begun(t, "1/4/1/")
	c.ok(c.Answer(1, nil, false))
	c.ok(c.Send(1, some(5), false))
	c.said("1/4/1/ 0/0/1/0d141b2229")
	c.said("")
	c.ok(c.Send(1, some(1), true))
	c.said("0/1/1/0d")
	c.said("")
	c.said("")
}
