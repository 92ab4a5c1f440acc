package conn

import (
	"strings"
	"testing"

	"tollgate/api"
)

// What is done with an event is done ahead of the next frame, though both came at once.
func TestHeardOneByOne(t *testing.T) {
	c := begun(t, "1/4/1/")
	for e := range c.Heard(bytesOf(t, strings.Repeat("0/0/1/*1024 ", 9)+"0/1/1/*5 3/0/1/00000000 5/0/0/0102030405060708 1/5/3/ 3/0/3/00000000")) {
		switch e.What {
		case api.Came:
			c.ok(c.Used(1, len(e.Body)))
		case api.Reset:
			t.Errorf("event %q of a stream that was answered", told(e))
		}
		if e.End {
			c.ok(c.Answer(e.Stream, nil, true))
		}
	}
	c.said(strings.Repeat("7/0/0/00000400 7/0/1/00000400 ", 9) + "1/5/1/ 5/1/0/0102030405060708 1/5/3/")
	if c.Over() {
		t.Error("it is over")
	}
}

// Of a frame of which none is told comes an event of no kind; of Feed it does not.
func TestHeardNothing(t *testing.T) {
	const frames = "4/0/0/ 5/1/0/0102030405060708 1/0/1/40 2/4/1/03622d630161 77/0/0/ 7/0/1/00000001 0/1/1/61 3/0/9/00000000 4/1/0/"
	const want = "? 0 0; ? 0 0; ? 0 0; Asked 1 0 [{b-c a}]; ? 0 0; ? 0 0; Came 1 0 *1 end; Failed 0 1"
	c := fresh(t)
	var l []api.Event
	for e := range c.Heard(bytesOf(t, frames)) {
		l = append(l, e)
	}
	if got := toldAll(l); got != want {
		t.Errorf("got %q, want %q", got, want)
	}
	for e := range c.Heard(bytesOf(t, "4/0/0/")) {
		t.Errorf("event %q of what is over", told(e))
	}
	fresh(t).hears(frames, strings.ReplaceAll(want, "? 0 0; ", ""))
}

// It hears when it is gone through, not ahead.
func TestHeardWhenAsked(t *testing.T) {
	c := fresh(t)
	all := c.Heard(bytesOf(t, "4/0/0/ 5/0/0/0102030405060708"))
	c.said("")
	for range all {
	}
	c.said("4/1/0/ 5/1/0/0102030405060708")
}
