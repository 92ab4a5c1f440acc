package conn

import (
	"bytes"
	"slices"
	"testing"

	"tollgate/api"
)

// roomy bytes whose memory goes on behind their length.
func roomy(b []byte) []byte {
	r := make([]byte, len(b), len(b)+20)
	copy(r, b)
	fill(r[len(b):], 'z')
	return r
}

// fill writes all over a list and what lies behind it.
func fill[T any](l []T, with T) {
	l = l[:cap(l)]
	for i := range l {
		l[i] = with
	}
}

// What is fed is not changed, nor kept: not what is cut, nor heads that are not whole, nor Bodies.
func TestFeedHandedIn(t *testing.T) {
	b := bytesOf(t, "4/0/0/ 1/0/1/4003 2/4/1/622d630161 0/0/1/*100 5/0/0/*8 1/4/3/8d")
	want := New()
	events, out := want.Feed(b), want.Out()
	for cut := range b {
		c := New()
		var l []api.Event
		for _, p := range [][]byte{b[:cut], b[cut:]} {
			in := roomy(p)
			l = append(l, c.Feed(in)...)
			if !bytes.Equal(in[:cap(in)], roomy(p)[:cap(in)]) {
				t.Fatalf("cut at %d: what was fed is changed", cut)
			}
			fill(in, 0xEE)
		}
		if toldAll(l) != toldAll(events) || !sameBodies(l, events) || !bytes.Equal(c.Out(), out) {
			t.Errorf("cut at %d: got %q", cut, toldAll(l))
		}
	}
}

// What is sent and answered is not changed, nor kept, while it waits.
func TestSendHandedIn(t *testing.T) {
	c := begun(t, "1/4/1/")
	for _, n := range []int{1990, 30, 1100} {
		b := roomy(some(n))
		c.ok(c.Send(1, b, false))
		if !bytes.Equal(b[:cap(b)], roomy(some(n))[:cap(b)]) {
			t.Errorf("Send of %d: what was handed in is changed", n)
		}
		fill(b, 0xEE)
	}
	c.hears(wide(0, 5000)+" "+wide(1, 5000), "")
	sameBytes(t, bodyOf(t, c.Out(), 1), slices.Concat(some(1990), some(30), some(1100)))
	x := api.Field{Name: "x", Value: "y"}
	l := append(make([]api.Field, 0, 5), api.Field{Name: "b-c", Value: "a"})
	fill(l[1:], x)
	c.ok(c.Answer(1, l, false))
	if l[0] != (api.Field{Name: "b-c", Value: "a"}) || l[:2][1] != x {
		t.Error("Answer: what was handed in is changed")
	}
	fill(l, x)
	c.said("1/4/1/" + added)
	c.ok(c.Answer(1, []api.Field{{Name: "b-c", Value: "a"}}, false))
	c.said("1/4/1/" + newest)
}

// What comes out is the caller's: written all over, it changes nothing that is told later.
func TestNewMemory(t *testing.T) {
	run := func(spoil bool) (s string) {
		c := New()
		for _, f := range []string{
			"4/0/0/ 1/4/1/" + added + " 0/0/1/*50 0/0/1/*60 1/0/1/8d", "2/4/1/8d 5/0/0/*8 1/5/3/8d8d", "0/0/3/*5", wide(0, 700), wide(1, 900),
		} {
			l := c.Feed(bytesOf(t, f))
			if len(l) == 0 && f[0] != '7' {
				t.Fatalf("%s: nothing is told", f)
			}
			if err := c.Send(1, some(1300), false); err != nil {
				t.Fatal(err)
			}
			b := c.Out()
			s += toldAll(l) + " " + framesOf(t, b) + string(b)
			for _, e := range l {
				s += string(e.Body)
			}
			if spoil {
				for _, e := range l {
					fill(e.Body, 0xEE)
					fill(e.Fields, api.Field{Name: "x", Value: "y"})
				}
				fill(l, api.Event{})
				fill(b, 0xEE)
			}
		}
		return s
	}
	if run(false) != run(true) {
		t.Error("it keeps what it gave out")
	}
}

// No two lists of one answer share memory.
func TestApart(t *testing.T) {
	c := fresh(t)
	l := c.Feed(bytesOf(t, "4/0/0/ 1/4/1/"+added+" 1/4/3/8d 0/0/1/*50 0/0/1/*50 0/0/3/*50"))
	for i := range l {
		fill(l[i].Body, byte(i))
		fill(l[i].Fields, api.Field{Name: "x", Value: string(rune('0' + i))})
	}
	for i, e := range l {
		for _, x := range e.Body {
			if x != byte(i) {
				t.Fatalf("the Body of event %d is another's too", i)
			}
		}
		for _, f := range e.Fields {
			if f.Value != string(rune('0'+i)) {
				t.Fatalf("the Fields of event %d are another's too", i)
			}
		}
	}
	// Two Conns have nothing in common.
	a, b := begun(t, "1/4/1/"+added), begun(t, "1/4/1/")
	a.hears("1/4/3/8d", "Asked 3 0 [{b-c a}]")
	b.hears("1/4/3/8d", "Failed 0 9")
	a.ok(a.Send(1, some(3), false))
}

// What goes out when it is taken piece by piece is the same as at once.
func TestOutAtOnce(t *testing.T) {
	run := func(often bool) (out []byte) {
		c := New()
		do := func() {
			if often {
				out = append(out, c.Out()...)
			}
		}
		c.Feed(bytesOf(t, "4/0/0/ 1/4/1/ 1/4/3/ 0/0/1/*1024"))
		do()
		for range 4 {
			c.Send(1, some(700), false)
			do()
			c.Send(3, some(500), false)
			do()
			c.Used(1, 256)
			do()
			c.Feed(bytesOf(t, wide(0, 300)+" "+wide(3, 50)))
			do()
		}
		c.Stop(1, 3)
		do()
		c.Bye(0)
		return append(out, c.Out()...)
	}
	sameBytes(t, run(true), run(false))
}
