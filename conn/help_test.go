package conn

import (
	"bytes"
	"encoding/hex"
	"fmt"
	"strconv"
	"strings"
	"testing"

	"tollgate/api"
	"tollgate/frame"
	"tollgate/plain"
)

// some bytes that are not alike from piece to piece.
func some(n int) []byte {
	b := make([]byte, n)
	for i := range b {
		b[i] = byte(i*7 + i/251 + 13)
	}
	return b
}

// body is written in hexadecimal digits, or as * and how many there are.
func body(t *testing.T, s string) []byte {
	t.Helper()
	if strings.HasPrefix(s, "*") {
		n, err := strconv.Atoi(s[1:])
		if err != nil {
			t.Fatal(err)
		}
		return some(n)
	}
	b, err := hex.DecodeString(s)
	if err != nil {
		t.Fatal(err)
	}
	return b
}

// bytesOf frames, each written as kind/flags/stream/body.
func bytesOf(t *testing.T, frames string) (b []byte) {
	t.Helper()
	for _, s := range strings.Fields(frames) {
		p := strings.Split(s, "/")
		var n [3]int
		for i := range n {
			n[i], _ = strconv.Atoi(p[i])
		}
		x, err := frame.Encode(api.Frame{Kind: n[0], Flags: n[1], Stream: n[2], Body: body(t, p[3])})
		if err != nil {
			t.Fatalf("%s: %v", s, err)
		}
		b = append(b, x...)
	}
	return b
}

// framesOf bytes, written as bytesOf reads them; a Body of more than 16 bytes by how many it has.
func framesOf(t *testing.T, b []byte) string {
	t.Helper()
	var l []string
	for len(b) > 0 {
		f, n, err := frame.Read(b)
		if err != nil {
			t.Fatalf("what goes out cannot be read: %v", err)
		}
		b = b[n:]
		what := hex.EncodeToString(f.Body)
		if len(f.Body) > 16 {
			what = "*" + strconv.Itoa(len(f.Body))
		}
		l = append(l, fmt.Sprintf("%d/%d/%d/%s", f.Kind, f.Flags, f.Stream, what))
	}
	return strings.Join(l, " ")
}

// told writes an event, all of it but what its Body is.
func told(e api.Event) string {
	name := [...]string{"?", "Asked", "Came", "Reset", "Failed", "Ended"}[e.What]
	s := fmt.Sprintf("%s %d %d", name, e.Stream, e.Code)
	if len(e.Fields) > 0 {
		s += fmt.Sprint(" ", e.Fields)
	}
	if len(e.Body) > 0 {
		s += fmt.Sprint(" *", len(e.Body))
	}
	if e.End {
		s += " end"
	}
	return s
}

func toldAll(l []api.Event) string {
	var s []string
	for _, e := range l {
		s = append(s, told(e))
	}
	return strings.Join(s, "; ")
}

// talk is a Conn under test.
type talk struct {
	t *testing.T
	*Conn
}

// fresh is one that has heard nothing; what it says first is taken away.
func fresh(t *testing.T) talk {
	c := talk{t, New()}
	c.Out()
	return c
}

// begun is one that has heard Set, and then frames; what it says till then is taken away.
func begun(t *testing.T, frames string) talk {
	t.Helper()
	c := fresh(t)
	c.Feed(bytesOf(t, "4/0/0/ "+frames))
	if c.Over() {
		t.Fatalf("%s: it is over", frames)
	}
	c.Out()
	return c
}

// hears frames, all at once.
func (c talk) hears(frames, events string) {
	c.t.Helper()
	if got := toldAll(c.Feed(bytesOf(c.t, frames))); got != events {
		c.t.Errorf("%.100s: got %q, want %q", frames, got, events)
	}
}

// said is what went out since it was asked last.
func (c talk) said(frames string) {
	c.t.Helper()
	if got := framesOf(c.t, c.Out()); got != frames {
		c.t.Errorf("said %q, want %q", got, frames)
	}
}

func (c talk) is(err error, want api.Errno) {
	c.t.Helper()
	if plain.Told(err) != want {
		c.t.Errorf("got %v, want %v", err, want)
	}
}

func (c talk) ok(err error) {
	c.t.Helper()
	c.is(err, api.OK)
}

// queued bytes of a stream.
func (c talk) queued(id, n int) {
	c.t.Helper()
	if got := c.Queued(id); got != n {
		c.t.Errorf("Queued of %d: got %d, want %d", id, got, n)
	}
}

// failed: over, with Bye said of a Last and a code and nothing else, and of no use any more.
func (c talk) failed(last, code int) {
	c.t.Helper()
	c.said(bye(last, code))
	if !c.Over() {
		c.t.Error("it is not over")
	}
	c.useless()
}

// useless: nothing is heard and nothing said any more, and each call says so, ahead of any other error.
func (c talk) useless() {
	c.t.Helper()
	for _, b := range [][]byte{nil, {0}, bytesOf(c.t, "4/0/0/ 1/5/9/ 5/0/0/*8"), some(2000)} {
		if l := c.Feed(b); len(l) != 0 {
			c.t.Errorf("it still hears: %q", toldAll(l))
		}
	}
	for _, id := range []int{1, 3, 0, -1} {
		c.is(c.Answer(id, nil, true), api.ErrState)
		c.is(c.Answer(id, make([]api.Field, 41), true), api.ErrState)
		c.is(c.Send(id, some(3), true), api.ErrState)
		c.is(c.Stop(id, 5), api.ErrState)
		c.is(c.Stop(id, -1), api.ErrState)
		c.is(c.Used(id, 0), api.ErrState)
		c.is(c.Used(id, -1), api.ErrState)
	}
	c.is(c.Bye(0), api.ErrState)
	c.is(c.Bye(-1), api.ErrState)
	if b := c.Out(); len(b) != 0 || !c.Over() {
		c.t.Errorf("over %v, and %d bytes go out", c.Over(), len(b))
	}
}

// bye is the frame.
func bye(last, code int) string { return fmt.Sprintf("6/0/0/%08x%08x", last, code) }

// stop is the frame.
func stop(id, code int) string { return fmt.Sprintf("3/0/%d/%08x", id, code) }

// wide is the frame.
func wide(id, by int) string { return fmt.Sprintf("7/0/%d/%08x", id, by) }

// set is the frame, of settings by turns name and value.
func set(l ...int) string {
	s := "4/0/0/"
	for i := 0; i+1 < len(l); i += 2 {
		s += fmt.Sprintf("%04x%08x", l[i], l[i+1])
	}
	return s
}

// data is the frames of n bytes that come for a stream, the last one with End or not.
func data(id, n int, end bool) string {
	var l []string
	for ; n > api.MaxFrame; n -= api.MaxFrame {
		l = append(l, fmt.Sprintf("0/0/%d/*%d", id, api.MaxFrame))
	}
	flags := 0
	if end {
		flags = api.End
	}
	return strings.Join(append(l, fmt.Sprintf("0/%d/%d/*%d", flags, id, n)), " ")
}

// bodyOf a stream in what goes out, all pieces in one.
func bodyOf(t *testing.T, b []byte, id int) (body []byte) {
	t.Helper()
	for len(b) > 0 {
		f, n, err := frame.Read(b)
		if err != nil {
			t.Fatal(err)
		}
		if f.Kind == api.Data && f.Stream == id {
			body = append(body, f.Body...)
		}
		b = b[n:]
	}
	return body
}

func sameBytes(t *testing.T, got, want []byte) {
	t.Helper()
	if !bytes.Equal(got, want) {
		t.Errorf("got %d bytes, want %d, or others", len(got), len(want))
	}
}

const (
	setEnd = "4/1/0/"
	// b-c of a is Added, and has a number then: newest is the newest of all that were.
	added  = "4003622d630161"
	newest = "8d"
)
