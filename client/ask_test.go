package client

import (
	"fmt"
	"slices"
	"strings"
	"testing"

	"tollgate/api"
	"tollgate/fields"
	"tollgate/head"
)

// K1: Set without a Body is said first, and once.
func TestNew(t *testing.T) {
	c := talk{t, New()}
	c.says(fr(api.Set, 0, 0, ""))
	c.says()
	c.isOpen()
	c = talk{t, New()}
	c.asks(get)
	c.says(fr(api.Set, 0, 0, ""), hd(1, true, firstGet))
}

// K1: streams 1, 3, 5, ..; End is in the Head, if there is no body, else in its last Data.
func TestAsk(t *testing.T) {
	c := fresh(t)
	for i, x := range []struct {
		r    api.Request
		want []api.Frame
	}{
		{get, []api.Frame{hd(1, true, firstGet)}},
		{post(3), []api.Frame{hd(3, false, laterPost), data(3, true, some(3))}},
		{get, []api.Frame{hd(5, true, laterGet)}},
		{api.Request{Method: "GET", Path: "/", Host: "h", Body: []byte{}}, []api.Frame{hd(7, true, laterGet)}},
		{post(1), []api.Frame{hd(9, false, laterPost), data(9, true, some(1))}},
	} {
		id, err := c.Ask(x.r)
		if id != 2*i+1 || err != nil {
			t.Errorf("Ask %d: got %d, %v", i, id, err)
		}
		c.says(x.want...)
	}
	c.isOpen(1, 3, 5, 7, 9)
}

// K1: the head is the List of the request, by one Coder of MaxTable for all of them.
func TestAskFields(t *testing.T) {
	c := fresh(t)
	hear, _ := head.New(api.MaxTable)
	say, _ := head.New(api.MaxTable)
	for i, l := range [][]api.Field{
		nil,
		{{Name: "cookie", Value: "a; b; c"}, {Name: "type", Value: "text"}},
		{{Name: "a", Value: "1"}, {Name: "a", Value: "1"}, {Name: "cookie", Value: "b; d"}},
		// Each of these takes some 400 of the table, which has room for ten of them.
		{{Name: "b", Value: strings.Repeat("~", 360)}, {Name: "c", Value: strings.Repeat("~", 361)}},
		{{Name: "d", Value: strings.Repeat("~", 362)}, {Name: "e", Value: strings.Repeat("~", 363)}},
		{{Name: "f", Value: strings.Repeat("~", 364)}, {Name: "g", Value: strings.Repeat("~", 365)}},
		{{Name: "h", Value: strings.Repeat("~", 366)}, {Name: "i", Value: strings.Repeat("~", 367)}},
		{{Name: "j", Value: strings.Repeat("~", 368)}, {Name: "k", Value: strings.Repeat("~", 369)}},
		{{Name: "b", Value: strings.Repeat("~", 360)}, {Name: "k", Value: strings.Repeat("~", 369)}},
		{{Name: "a", Value: "1"}, {Name: "d", Value: strings.Repeat("~", 362)}},
	} {
		r := api.Request{Method: "PUT", Path: fmt.Sprint("/", i%3), Host: "h", Fields: l}
		c.asks(r)
		want, err := fields.List(r)
		if err != nil {
			t.Fatal(err)
		}
		block, _ := say.Encode(want)
		out := framesOf(t, c.Out())
		if len(out) != 1 || string(out[0].Body) != string(block) {
			t.Errorf("request %d: said %s", i, writtenAll(out))
		}
		if got, err := hear.Decode(out[0].Body); err != nil || !slices.Equal(got, want) {
			t.Errorf("request %d: heard %v, %v", i, got, err)
		}
	}
}

// long has a head of more than MaxFrame bytes.
func long(body []byte) api.Request {
	r := api.Request{Method: "PUT", Path: "/", Host: "h", Body: body}
	for i := range 3 {
		r.Fields = append(r.Fields, api.Field{Name: string(rune('a' + i)), Value: strings.Repeat("~", 390)})
	}
	return r
}

// K1: a head of more than MaxFrame bytes goes in several frames.
func TestAskLongHead(t *testing.T) {
	for _, n := range []int{0, 5} {
		c := fresh(t)
		c.asks(long(some(n)))
		say, _ := head.New(api.MaxTable)
		l, _ := fields.List(long(nil))
		block, _ := say.Encode(l)
		want := []api.Frame{
			fr(api.Head, flags(n == 0), 1, string(block[:api.MaxFrame])),
			fr(api.More, api.Whole, 1, string(block[api.MaxFrame:])),
		}
		if n > 0 {
			want = append(want, data(1, true, some(n)))
		}
		c.says(want...)
	}
}

// pieces of a body as Data of at most MaxFrame bytes, with End.
func pieces(id int, body []byte) (l []api.Frame) {
	for len(body) > api.MaxFrame {
		l = append(l, data(id, false, body[:api.MaxFrame]))
		body = body[api.MaxFrame:]
	}
	return append(l, data(id, true, body))
}

// K1: a body goes as Data of at most MaxFrame bytes, as far as the windows go.
func TestAskBody(t *testing.T) {
	for _, n := range []int{1, 2, 1023, 1024, 1025, 1999, 2000} {
		c := fresh(t)
		c.asks(post(n))
		c.says(append([]api.Frame{hd(1, false, firstPost)}, pieces(1, some(n))...)...)
		c.hears(wide(0, 5000), wide(1, 5000))
		c.says()
	}
	c := fresh(t)
	c.asks(post(2001))
	c.says(hd(1, false, firstPost), data(1, false, some(1024)), data(1, false, some(2000)[1024:]))
	c.hears(wide(1, 1))
	c.says()
	c.hears(wide(0, 1))
	c.says(data(1, true, some(2001)[2000:]))
}

// K1: MaxBody bytes go, with Wides of both.
func TestAskMaxBody(t *testing.T) {
	c := fresh(t)
	c.asks(post(api.MaxBody))
	c.hears(wide(0, api.MaxWord-1999))
	c.says(hd(1, false, firstPost), data(1, false, some(1024)), data(1, false, some(2000)[1024:]))
	c.hears(wide(1, api.MaxWord-1999))
	c.says(pieces(1, some(api.MaxBody)[2000:])...)
}

// K1: what waits for the stream's window lets others go; what waits for the connection's goes in turn.
func TestAskWaits(t *testing.T) {
	c := fresh(t)
	c.hears(wide(0, 1000))
	c.asks(post(2500), post(700), post(900), post(10))
	all := some(2500)
	c.says(
		hd(1, false, firstPost), data(1, false, all[:1024]), data(1, false, all[1024:2000]),
		hd(3, false, laterPost), data(3, true, some(700)),
		hd(5, false, laterPost), data(5, false, some(300)),
		hd(7, false, laterPost),
	)
	c.isOpen(1, 3, 5, 7)
	c.hears(wide(1, 100)) // the connection's window is full
	c.says()
	c.hears(wide(0, 50))
	c.says(data(1, false, all[2000:2050]))
	c.hears(wide(0, 51)) // 1 goes as far as it goes, then 5, which waited first
	c.says(data(1, false, all[2050:2100]), data(5, false, some(301)[300:]))
	c.hears(wide(0, 604))
	c.says(data(5, true, some(900)[301:]), data(7, false, some(5)))
	c.hears(wide(0, 1000))
	c.says(data(7, true, some(10)[5:]))
	c.hears(wide(1, 1))
	c.says(data(1, false, all[2100:2101]))
	c.hears(wide(1, 5000))
	c.says(data(1, true, all[2101:]))
}

// K1: what waits goes when SetWindow grants it; below what has gone nothing goes.
func TestAskSet(t *testing.T) {
	c := fresh(t)
	c.hears(wide(0, 5000))
	c.asks(post(2100))
	c.Out()
	c.hears(set(api.SetWindow, 2050))
	c.says(setEnd(), data(1, false, some(2050)[2000:]))
	c.hears(set(api.SetWindow, 1000)) // 1050 below what has gone
	c.says(setEnd())
	c.asks(post(1001))
	c.says(hd(3, false, laterPost), data(3, false, some(1000)))
	c.hears(wide(1, 1049))
	c.says()
	c.hears(wide(1, 2))
	c.says(data(1, false, some(2051)[2050:]))
	// Of several settings the last one holds.
	c.hears(set(api.SetWindow, 5000, api.SetWindow, 1001))
	c.says(setEnd(), data(1, false, some(2052)[2051:]), data(3, true, some(1001)[1000:]))
	c.hears(set(api.SetWindow, 0))
	c.says(setEnd())
	c.asks(post(1), get)
	c.says(hd(5, false, laterPost), hd(7, true, laterGet))
	c.hears(set(api.SetWindow, 1))
	c.says(setEnd(), data(5, true, some(1)))
	// The connection's window is not SetWindow's: 5000 and 2000, of which 2052, 1001 and 1 went.
	c.hears(set(api.SetWindow, 8000))
	c.says(setEnd(), data(1, true, some(2100)[2052:]))
	c.asks(post(7000))
	out := framesOf(t, c.Out())
	n := 0
	for _, f := range out[1:] {
		n += len(f.Body)
	}
	if want := 7000 - 2100 - 1001 - 1; n != want {
		t.Errorf("%d bytes go, want %d", n, want)
	}
}

// K1: List's errors, and then those of chapter 4; nothing is done then.
func TestAskWrong(t *testing.T) {
	many := func(n int) (l []api.Field) {
		for range n {
			l = append(l, api.Field{Name: "a", Value: "b"})
		}
		return l
	}
	// Of :method GET, :path / and :host h, with their sizes of 42, 38 and 38.
	heavy := func(n int) []api.Field {
		l := []api.Field{}
		for _, b := range []string{"b", "c", "d", "e"} {
			l = append(l, api.Field{Name: b, Value: strings.Repeat("~", 400)})
		}
		return append(l, api.Field{Name: "f", Value: strings.Repeat("~", n-42-38-38-4*433-33)})
	}
	with := func(l []api.Field) api.Request {
		return api.Request{Method: "GET", Path: "/", Host: "h", Fields: l}
	}
	cookies := strings.TrimSuffix(strings.Repeat("x; ", 38), "; ")
	for _, x := range []struct {
		name string
		r    api.Request
		want api.Errno
	}{
		{"no method", api.Request{Path: "/", Host: "h"}, api.ErrSyntax},
		{"no path", api.Request{Method: "GET", Host: "h"}, api.ErrSyntax},
		{"a path with a blank", api.Request{Method: "GET", Path: "/ a", Host: "h"}, api.ErrSyntax},
		{"no host", api.Request{Method: "GET", Path: "/"}, api.ErrSyntax},
		{"a great letter", with([]api.Field{{Name: "A", Value: "b"}}), api.ErrSyntax},
		{"length", with([]api.Field{{Name: "length", Value: "0"}}), api.ErrShape},
		{"41 fields", with(many(41)), api.ErrFull},
		{"more than MaxBody", post(api.MaxBody + 1), api.ErrFull},
		{"38 fields and three", with(many(38)), api.ErrFull},
		{"37 fields and three", with(many(37)), api.OK},
		{"38 cookies in one", with([]api.Field{{Name: "cookie", Value: cookies}}), api.ErrFull},
		{"37 cookies in one", with([]api.Field{{Name: "cookie", Value: cookies[3:]}}), api.OK},
		{"2001 in all", with(heavy(api.MaxList + 1)), api.ErrFull},
		{"2000 in all", with(heavy(api.MaxList)), api.OK},
	} {
		c := fresh(t)
		if x.want == api.OK {
			c.asks(x.r)
			continue
		}
		c.refuses(x.r, x.want)
		c.isOpen()
		c.noReply(1, api.ErrNone)
		c.asks(get)
		c.says(hd(1, true, firstGet)) // neither the number is gone, nor is the table another
		if t.Failed() {
			t.Fatal(x.name)
		}
	}
}

// K1: as many as MaxStreams may be Open, and one more when one of them is whole or stopped. List's errors come ahead of that, those of chapter 4 do not.
func TestAskMaxStreams(t *testing.T) {
	for _, way := range []func(c talk){
		func(c talk) { c.hears(hd(5, true, code200)) },
		func(c talk) { c.hears(hd(5, false, code200), data(5, true, nil)) },
		func(c talk) { c.hears(stop(5)) },
		func(c talk) { c.hears(hd(5, false, code200), stop(5)) },
	} {
		c := fresh(t)
		for range api.MaxStreams {
			c.asks(get)
		}
		c.refuses(get, api.ErrFull)
		c.refuses(api.Request{}, api.ErrSyntax)
		c.refuses(api.Request{Method: "GET", Path: "/", Host: "h", Fields: []api.Field{{Name: "host", Value: "h"}}}, api.ErrShape)
		c.hears(hd(7, false, code200), data(7, false, some(5)))
		c.refuses(get, api.ErrFull)
		way(c)
		c.Out()
		c.asks(get)
		c.says(hd(33, true, laterGet))
		c.refuses(get, api.ErrFull)
		if got := c.Open(); len(got) != api.MaxStreams || got[15] != 33 {
			t.Errorf("Open: got %v", got)
		}
	}
}

// K1: when the other side has said Bye nothing is asked any more, whatever Bye says.
func TestAskBye(t *testing.T) {
	for _, f := range []api.Frame{farewell(0, 0), farewell(1, 5), farewell(api.MaxWord, 0)} {
		c := fresh(t, get)
		c.hears(f)
		c.refuses(get, api.ErrState)
		c.refuses(api.Request{}, api.ErrState)
		c.refuses(post(api.MaxBody+1), api.ErrState)
		// What came is heard on, and Grant may be said.
		c.hears(fr(api.Ping, 0, 0, "12345678"), hd(1, true, code200))
		c.is(c.Grant(1), api.OK)
		c.says(fr(api.Ping, api.End, 0, "12345678"), wide(0, 1))
		c.isOpen()
	}
}

// K1: what waits goes on behind a Bye, and behind a reply that is whole ahead of its request.
func TestAskWaitsOn(t *testing.T) {
	for _, f := range []api.Frame{farewell(1, 0), farewell(0, 0), hd(1, true, code200)} {
		c := fresh(t, post(2100))
		c.hears(set(api.SetWindow, 2050))
		c.says(setEnd()) // the connection's window is full
		c.hears(f, wide(0, 40))
		c.says(data(1, false, some(2040)[2000:]))
		c.hears(set(api.SetWindow, 4000), wide(0, 100))
		c.says(setEnd(), data(1, true, some(2100)[2040:]))
	}
}

// K1: with a Stop what waits is gone, and the others go on.
func TestAskStopped(t *testing.T) {
	c := fresh(t, post(2100), post(30), post(20))
	c.hears(stop(1), stop(5), wide(0, 5000))
	c.says(data(3, true, some(30)))
	c.hears(wide(1, 5000), wide(5, 5000), set(api.SetWindow, 6000))
	c.says(setEnd())
}
