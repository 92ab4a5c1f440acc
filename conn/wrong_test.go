package conn

import (
	"fmt"
	"testing"

	"tollgate/api"
)

// D3: wrong for all: what came ahead of it is told, what comes behind it is not heard.
func TestWrongForAll(t *testing.T) {
	for _, x := range []struct {
		frames, ahead string
		code          int
	}{
		{"5/0/0/*7", "", api.CodeSize},
		{"2/4/1/", "", api.CodeProto},
		{"1/4/7/8e", "", api.CodeHead},
		{"1/4/4/", "", api.CodeProto},
		{"0/0/3/", "", api.CodeClosed},
		{"1/4/3/", "", api.CodeClosed},
		{"0/0/9/", "", api.CodeProto},
		{"3/0/9/00000001", "", api.CodeProto},
		{wide(9, 1), "", api.CodeProto},
		{wide(0, api.MaxWindow), "", api.CodeFlow},
		{data(5, 2001, false), "Came 5 0 *1024; ", api.CodeFlow},
		{set(api.SetWindow, 1<<31-1), "", api.CodeFlow},
		{set(api.SetWindow, 1<<31), "", api.CodeFlow},
	} {
		c := begun(t, "1/4/5/ "+wide(5, 1))
		c.hears(bye(0, 4)+" "+x.frames+" 5/0/0/*8 6/0/0/*8", fmt.Sprint("Ended 0 4; ", x.ahead, "Failed 0 ", x.code))
		c.failed(5, x.code)
	}
}

// D3: what is to go out ahead of it still does, and then Bye.
func TestWrongForAllOut(t *testing.T) {
	c := begun(t, "1/4/1/")
	c.ok(c.Answer(1, nil, false))
	c.ok(c.Send(1, some(2500), true))
	c.hears("5/0/0/0102030405060708 2/4/1/", "Failed 0 1")
	c.said("1/4/1/ 0/0/1/*1024 0/0/1/*976 5/1/0/0102030405060708 " + bye(1, 1))
	c.useless()
	// It is not said of what waits for all that it is gone: it waits, and nothing is granted any more.
	c.queued(1, 500)
	// Without a frame ahead: the very first one says Bye of 0.
	c = fresh(t)
	c.hears("0/0/1/", "Failed 0 1")
	c.failed(0, api.CodeProto)
}

// D3: each that is wrong for a stream: the event, the frame, and that the others go on.
func TestWrongForStream(t *testing.T) {
	for f, code := range map[string]int{
		"0/0/1/ff":             api.CodeClosed,
		"0/1/1/":               api.CodeClosed,
		"1/4/1/":               api.CodeClosed,
		"1/5/1/" + added:       api.CodeClosed,
		wide(1, api.MaxWindow): api.CodeFlow,
	} {
		c := begun(t, "1/5/1/ 1/4/3/")
		c.ok(c.Answer(1, nil, false))
		c.ok(c.Send(1, some(1500), false))
		c.ok(c.Send(3, some(1500), false))
		c.ok(c.Send(1, some(1500), true))
		c.Out()
		c.queued(1, 1500)
		c.hears(f, fmt.Sprint("Reset 1 ", code))
		c.said(stop(1, code))
		c.queued(1, 0)
		c.queued(3, 1000)
		c.is(c.Answer(1, nil, true), api.ErrState)
		c.is(c.Send(1, nil, true), api.ErrState)
		c.hears(wide(0, 5000)+" "+wide(1, 5000), "")
		c.said("0/0/3/*1000")
		c.hears("0/0/3/ff", "Came 3 0 *1")
		if c.Over() {
			t.Error("it is over")
		}
	}
}

// D3: what still comes of a stream that was Closed so, or by Stop, is passed over.
func TestPassedOver(t *testing.T) {
	closers := map[string]func(c talk){
		"wrong": func(c talk) { c.hears("0/0/1/", "Reset 1 5") },
		"Stop":  func(c talk) { c.ok(c.Stop(1, 5)) },
	}
	for name, shut := range closers {
		c := begun(t, "1/5/1/ 1/4/3/")
		shut(c)
		c.said(stop(1, 5))
		c.hears("0/0/1/ff 0/1/1/ 1/4/1/ 1/5/1/ 3/0/1/00000001 "+wide(1, api.MaxWindow)+" "+wide(1, 1), "")
		c.hears("0/0/1/ff 1/5/1/", "")
		c.said("")
		// Check is asked of it all the same, and so is the turn of frames.
		for f, code := range map[string]int{"3/0/1/": api.CodeSize, "7/0/1/00000000": api.CodeProto, "2/4/1/": api.CodeProto, "1/0/1/ 0/0/1/": api.CodeProto} {
			d := begun(t, "1/5/1/")
			shut(d)
			d.hears(f, fmt.Sprint("Failed 0 ", code))
		}
		if c.Over() {
			t.Errorf("%s: it is over", name)
		}
	}
}

// D3: a stream that was Closed otherwise is not passed over.
func TestNotPassedOver(t *testing.T) {
	c := begun(t, "1/5/1/")
	c.ok(c.Answer(1, nil, true))
	c.hears("3/0/1/00000000 "+wide(1, 1), "")
	c.hears("1/4/1/", "Failed 0 5")
	c = begun(t, "1/4/1/ 3/0/1/00000000")
	c.hears("0/0/1/", "Failed 0 5")
	// Stop is said of a Closed one too, and then it is passed over.
	c = begun(t, "1/4/1/ 3/0/1/00000000")
	c.ok(c.Stop(1, 5))
	c.said(stop(1, 5))
	c.hears("0/0/1/ 1/4/1/", "")
	// So of one that was never opened, but is below one that was.
	c = begun(t, "1/4/9/")
	c.ok(c.Stop(3, 5))
	c.hears("0/0/3/ 1/4/3/", "")
	c.hears("0/0/5/", "Failed 0 5")
}

// D3: heads that are passed over are decoded: those behind them still decode.
func TestPassedOverHeads(t *testing.T) {
	c := begun(t, "1/4/1/ 1/4/3/")
	c.ok(c.Stop(1, 0))
	c.hears("1/4/1/"+added+" 1/4/3/8d", "Asked 3 0 [{b-c a}]")
	c.hears("1/0/1/4003622d63 2/4/1/0162 1/4/3/8d8e", "Asked 3 0 [{b-c b} {b-c a}]")
	c.hears("1/4/1/80", "Failed 0 9")
	c = begun(t, "1/0/1/40")
	c.hears("2/4/1/03622d630161 0/1/1/ 0/0/1/ 1/4/1/4003622d640161 1/5/3/8d8e",
		"Asked 1 0 [{b-c a}]; Came 1 0 end; Reset 1 5; Asked 3 0 [{b-d a} {b-c a}] end")
	// Stopped between its frames.
	c = begun(t, "1/4/1/ 1/0/1/40")
	c.ok(c.Stop(1, 0))
	c.hears("2/4/1/03622d630161 1/5/3/8d", "Asked 3 0 [{b-c a}] end")
}

// D3: Data that is passed over takes of the connection's window.
func TestPassedOverData(t *testing.T) {
	c := begun(t, "1/4/1/ 1/4/3/ "+data(3, 500, false))
	c.ok(c.Stop(1, 0))
	c.hears(data(1, 1500, false), "")
	c.hears("0/0/3/", "Came 3 0")
	d := begun(t, "1/4/1/ 1/4/3/ "+data(3, 500, false))
	d.ok(d.Stop(1, 0))
	d.hears(data(1, 1501, false), "Failed 0 3")
	// It is done with: nobody can say that it is Used, and the next Used grants it anew.
	c.Out()
	c.is(c.Used(1, 1), api.ErrRange)
	c.said("")
	c.ok(c.Used(3, 0))
	c.said(wide(0, 1500))
	c.hears(data(3, 1500, false), toldCame(3, 1500))
	c.hears("0/0/3/ff", "Failed 0 3")
}
