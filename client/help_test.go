package client

import (
	"bytes"
	"fmt"
	"slices"
	"strings"
	"testing"

	"tollgate/api"
	"tollgate/frame"
	"tollgate/plain"
)

// What the two tables have at first, and what a head of it says.
const (
	code200 = "\x85"
	code404 = "\x86"
	// x of y is Added, and has a number then: newest is the newest of all that were.
	added  = "\x40\x01x\x01y"
	newest = "\x8d"
)

var get = api.Request{Method: "GET", Path: "/", Host: "h"}

// The head of get, when it is said first, and later.
const (
	firstGet = "\x81\x83\x44\x01h"
	laterGet = "\x81\x83\x8d"
)

// post has a body of so many bytes.
func post(n int) api.Request {
	return api.Request{Method: "POST", Path: "/", Host: "h", Body: some(n)}
}

const (
	firstPost = "\x82\x83\x44\x01h"
	laterPost = "\x82\x83\x8d"
)

// some bytes that are not alike from piece to piece.
func some(n int) []byte {
	b := make([]byte, n)
	for i := range b {
		b[i] = byte(i*11 + i/253 + 5)
	}
	return b
}

func word(n int) string { return string([]byte{byte(n >> 24), byte(n >> 16), byte(n >> 8), byte(n)}) }

func fr(kind, flags, id int, body string) api.Frame {
	return api.Frame{Kind: kind, Flags: flags, Stream: id, Body: []byte(body)}
}

func flags(end bool) int {
	if end {
		return api.End
	}
	return 0
}

func hd(id int, end bool, block string) api.Frame {
	return fr(api.Head, api.Whole|flags(end), id, block)
}

func data(id int, end bool, body []byte) api.Frame { return fr(api.Data, flags(end), id, string(body)) }

func wide(id, n int) api.Frame { return fr(api.Wide, 0, id, word(n)) }

func stop(id int) api.Frame { return fr(api.Stop, 0, id, word(3)) }

func farewell(last, code int) api.Frame { return fr(api.Bye, 0, 0, word(last)+word(code)) }

// set has settings, by turns name and value.
func set(l ...int) api.Frame {
	body := ""
	for i := 0; i+1 < len(l); i += 2 {
		body += word(l[i])[2:] + word(l[i+1])
	}
	return fr(api.Set, 0, 0, body)
}

func setEnd() api.Frame { return fr(api.Set, api.End, 0, "") }

func bytesOf(t *testing.T, l ...api.Frame) (b []byte) {
	t.Helper()
	for _, f := range l {
		x, err := frame.Encode(f)
		if err != nil {
			t.Fatal(err)
		}
		b = append(b, x...)
	}
	return b
}

// written is a frame as text, a long Body by its beginning, its size and its sum.
func written(f api.Frame) string {
	s := fmt.Sprintf("%d/%d/%d/", f.Kind, f.Flags, f.Stream)
	if len(f.Body) <= 16 {
		return s + fmt.Sprintf("%x", f.Body)
	}
	sum := 0
	for i, x := range f.Body {
		sum += (i + 1) * int(x)
	}
	return s + fmt.Sprintf("%x..*%d+%d", f.Body[:8], len(f.Body), sum)
}

func writtenAll(l []api.Frame) string {
	var s []string
	for _, f := range l {
		s = append(s, written(f))
	}
	return strings.Join(s, " ")
}

func framesOf(t *testing.T, b []byte) (l []api.Frame) {
	t.Helper()
	for len(b) > 0 {
		f, n, err := frame.Read(b)
		if err != nil {
			t.Fatalf("what goes out cannot be read: %v", err)
		}
		l = append(l, f)
		b = b[n:]
	}
	return l
}

// talk is a Client under test.
type talk struct {
	t *testing.T
	*Client
}

// fresh has asked these; what it said till then is taken away.
func fresh(t *testing.T, asked ...api.Request) talk {
	t.Helper()
	c := talk{t, New()}
	c.asks(asked...)
	c.Out()
	return c
}

func (c talk) asks(l ...api.Request) {
	c.t.Helper()
	for _, r := range l {
		if id, err := c.Ask(r); err != nil || id%2 != 1 {
			c.t.Fatalf("Ask: got %d, %v", id, err)
		}
	}
}

// refuses to be asked, and nothing is said.
func (c talk) refuses(r api.Request, want api.Errno) {
	c.t.Helper()
	c.Out()
	if id, err := c.Ask(r); id != 0 || plain.Told(err) != want {
		c.t.Errorf("Ask: got %d, %v, want %v", id, err, want)
	}
	c.says()
}

func (c talk) hears(l ...api.Frame) {
	c.t.Helper()
	if err := c.Feed(bytesOf(c.t, l...)); err != nil {
		c.t.Errorf("%s: got %v", writtenAll(l), err)
	}
}

// fails by the last of these frames.
func (c talk) fails(l ...api.Frame) {
	c.t.Helper()
	c.hears(l[:len(l)-1]...)
	c.failsBy(bytesOf(c.t, l[len(l)-1]))
}

// failsBy bytes: nothing is said then, and it is of no use any more. What came till then is still told.
func (c talk) failsBy(b []byte) {
	c.t.Helper()
	c.Out()
	was := c.told()
	if err := c.Feed(b); plain.Told(err) != api.ErrSyntax {
		c.t.Errorf("%.40x: got %v, want %v", b, err, api.ErrSyntax)
	}
	c.says()
	for _, b := range [][]byte{nil, {0}, b, bytesOf(c.t, set(), fr(api.Ping, 0, 0, "12345678"), hd(1, true, code200))} {
		c.is(c.Feed(b), api.ErrState)
	}
	for _, n := range []int{-1, 0, 1, api.MaxWord, api.MaxWord + 1} {
		c.is(c.Grant(n), api.ErrState)
	}
	c.refuses(get, api.ErrState)
	c.refuses(api.Request{}, api.ErrState)
	if now := c.told(); now != was {
		c.t.Errorf("%.40x: told %q, and %q behind it", b, was, now)
	}
}

// says just these, since it was asked last.
func (c talk) says(l ...api.Frame) {
	c.t.Helper()
	if got, want := writtenAll(framesOf(c.t, c.Out())), writtenAll(l); got != want {
		c.t.Errorf("said\n%s, want\n%s", got, want)
	}
}

func (c talk) is(err error, want api.Errno) {
	c.t.Helper()
	if plain.Told(err) != want {
		c.t.Errorf("got %v, want %v", err, want)
	}
}

func (c talk) isOpen(ids ...int) {
	c.t.Helper()
	if got := c.Open(); !slices.Equal(got, ids) {
		c.t.Errorf("Open: got %v, want %v", got, ids)
	}
}

// replied with just this.
func (c talk) replied(id int, want api.Reply) {
	c.t.Helper()
	got, err := c.Reply(id)
	if err != nil || got.Code != want.Code || !slices.Equal(got.Fields, want.Fields) || !bytes.Equal(got.Body, want.Body) {
		c.t.Errorf("Reply of %d: got %d %v *%d, %v, want %d %v *%d", id, got.Code, got.Fields, len(got.Body), err, want.Code, want.Fields, len(want.Body))
	}
}

// noReply: an error, and nothing else.
func (c talk) noReply(id int, want api.Errno) {
	c.t.Helper()
	got, err := c.Reply(id)
	if plain.Told(err) != want || got.Code != 0 || len(got.Fields) > 0 || len(got.Body) > 0 {
		c.t.Errorf("Reply of %d: got %d %v *%d, %v, want %v", id, got.Code, got.Fields, len(got.Body), err, want)
	}
}

// told is all that is told of what came.
func (c talk) told() string {
	s := fmt.Sprint(c.Open(), " ", c.Code())
	for id := -1; id < 40; id++ {
		r, err := c.Reply(id)
		s += fmt.Sprintf("; %d %d %v %x %v", id, r.Code, r.Fields, r.Body, err)
	}
	return s
}
