package client

import (
	"bytes"
	"fmt"
	"math/rand"
	"slices"
	"strings"
	"testing"

	"tollgate/api"
	"tollgate/fields"
	"tollgate/frame"
	"tollgate/head"
	"tollgate/plain"
)

// The model goes by the words of the chapter: plain numbers for windows, and a list of all that was asked, the stream 2*i+1 at i.

type modelCall struct {
	fields         []api.Field
	body           []byte
	whole, stopped bool
	window         int
	wait           []byte
	since          int // when it began to wait; 0: it does not
}

type model struct {
	bytes, out []byte
	frames     []api.Frame // of a head that is not whole
	coder      *head.Coder
	calls      []*modelCall
	wrong      bool
	byes       [][2]int
	all, first int
	clock      int
}

func newModel() *model {
	coder, _ := head.New(api.MaxTable)
	m := &model{coder: coder, all: 2000, first: 2000}
	m.say(fr(api.Set, 0, 0, ""))
	return m
}

func (m *model) say(f api.Frame) {
	b, err := frame.Encode(f)
	if err != nil {
		panic(err)
	}
	m.out = append(m.out, b...)
}

func (m *model) find(id int) *modelCall {
	if id < 1 || id%2 == 0 || id/2 >= len(m.calls) {
		return nil
	}
	return m.calls[id/2]
}

func (m *model) open() (l []int) {
	for i, c := range m.calls {
		if !c.whole && !c.stopped {
			l = append(l, 2*i+1)
		}
	}
	return l
}

func (m *model) ask(r api.Request) (int, api.Errno) {
	if m.wrong || len(m.byes) > 0 {
		return 0, api.ErrState
	}
	l, err := fields.List(r)
	if err != nil {
		return 0, plain.Told(err)
	}
	if len(m.open()) == 16 {
		return 0, api.ErrFull
	}
	block, err := m.coder.Encode(l)
	if err != nil {
		return 0, plain.Told(err)
	}
	id := 2*len(m.calls) + 1
	for _, f := range frame.Split(id, block, len(r.Body) == 0) {
		m.say(f)
	}
	c := &modelCall{window: m.first, wait: bytes.Clone(r.Body)}
	m.calls = append(m.calls, c)
	if len(r.Body) > 0 {
		m.clock++
		c.since = m.clock
		m.goOn()
	}
	return id, api.OK
}

// goOn says one piece after the other: of those that can go the one that waits the longest.
func (m *model) goOn() {
	for {
		at := -1
		for i, c := range m.calls {
			if c.since > 0 && min(c.window, m.all) > 0 && (at < 0 || c.since < m.calls[at].since) {
				at = i
			}
		}
		if at < 0 {
			return
		}
		c := m.calls[at]
		n := min(len(c.wait), c.window, m.all, 1024)
		m.say(data(2*at+1, n == len(c.wait), c.wait[:n]))
		c.wait = c.wait[n:]
		c.window -= n
		m.all -= n
		if len(c.wait) == 0 {
			c.since = 0
		}
	}
}

func (m *model) feed(b []byte) api.Errno {
	if m.wrong {
		return api.ErrState
	}
	m.bytes = append(m.bytes, b...)
	for len(m.bytes) >= 9 {
		b := m.bytes
		n := int(b[0])<<16 + int(b[1])<<8 + int(b[2])
		if n <= 1024 && b[5] < 128 && len(b) < 9+n {
			break
		}
		if n > 1024 || b[5] >= 128 || !m.frame(fr(int(b[3]), int(b[4]), frame.Number(b[5:9]), string(b[9:9+n]))) {
			m.wrong = true
			return api.ErrSyntax
		}
		m.bytes = m.bytes[9+n:]
	}
	return api.OK
}

func (m *model) frame(f api.Frame) bool {
	within := len(m.frames) > 0
	if frame.Check(f) != 0 || within != (f.Kind == api.More) || within && f.Stream != m.frames[0].Stream {
		return false
	}
	end, c := f.Flags%2 == 1, m.find(f.Stream)
	ofStream := f.Kind <= api.Stop || f.Kind == api.Wide && f.Stream > 0
	if ofStream && (c == nil || c.whole) {
		return false
	}
	switch f.Kind {
	case api.Data:
		if n := len(f.Body); n > 0 {
			m.say(wide(0, n))
			if !c.stopped && !end {
				m.say(wide(f.Stream, n))
			}
		}
		if !c.stopped {
			c.body = append(c.body, f.Body...)
			c.whole = end
		}
	case api.Head, api.More:
		m.frames = append(m.frames, f)
		return f.Flags/4%2 == 0 || m.head(c)
	case api.Stop:
		c.stopped, c.since = true, 0
	case api.Wide:
		return m.wide(c, frame.Number(f.Body))
	case api.Set:
		return end || m.set(f.Body)
	case api.Ping:
		if !end {
			m.say(fr(api.Ping, api.End, 0, string(f.Body)))
		}
	case api.Bye:
		m.byes = append(m.byes, [2]int{frame.Number(f.Body[:4]), frame.Number(f.Body[4:8])})
	}
	return true
}

func (m *model) head(c *modelCall) bool {
	end := m.frames[0].Flags%2 == 1
	var b []byte
	for _, f := range m.frames {
		b = append(b, f.Body...)
	}
	m.frames = nil
	l, err := m.coder.Decode(b)
	if err == nil && !c.stopped {
		c.fields = append(c.fields, l...)
		c.whole = end
	}
	return err == nil
}

func (m *model) wide(c *modelCall, n int) bool {
	switch {
	case c == nil:
		m.all += n
	case !c.stopped:
		c.window += n
	}
	if m.all > api.MaxWindow || c != nil && c.window > api.MaxWindow {
		return false
	}
	m.goOn()
	return true
}

func (m *model) set(b []byte) bool {
	for ; len(b) > 0; b = b[6:] {
		name, n := int(b[0])<<8+int(b[1]), frame.Number(b[2:6])
		if name == api.SetTable {
			m.coder.Resize(min(n, api.MaxTable))
		}
		if name != api.SetWindow {
			continue
		}
		for _, c := range m.calls {
			// One that is whole and has gone has no window any more.
			if c.stopped || c.whole && c.since == 0 {
				continue
			}
			if c.window += n - m.first; c.window > api.MaxWindow {
				return false
			}
		}
		m.first = n
	}
	m.say(setEnd())
	m.goOn()
	return true
}

func (m *model) grant(n int) api.Errno {
	switch {
	case m.wrong:
		return api.ErrState
	case n < 1 || n > 1<<31-1:
		return api.ErrRange
	}
	m.say(wide(0, n))
	return api.OK
}

func (m *model) reply(id int) (api.Reply, error) {
	c := m.find(id)
	if c == nil {
		return api.Reply{}, api.ErrNone
	}
	below := slices.ContainsFunc(m.byes, func(b [2]int) bool { return b[0] < id })
	switch {
	case c.stopped || below:
		return api.Reply{}, api.ErrState
	case !c.whole:
		return api.Reply{}, api.ErrShort
	}
	return fields.Reply(c.fields, c.body)
}

// both is a Client and its model, that are told the same.
type both struct {
	t     *testing.T
	dice  *rand.Rand
	c     *Client
	m     *model
	coder *head.Coder // the other side's
	did   []string
	seen  map[string]int
}

func (x *both) check(what string, same bool) {
	if !same {
		x.t.Fatalf("%s is otherwise, behind: %s", what, strings.Join(x.did, "\n"))
	}
}

func (x *both) note(format string, a ...any) {
	x.did = append(x.did, fmt.Sprintf(format, a...))
}

func (x *both) say(who string, err error, want api.Errno) {
	x.note("  %v, want %v", err, want)
	x.check("the error", plain.Told(err) == want)
	x.seen[who+" "+want.Error()]++
}

// one of some in a hundred.
func (x *both) seldom(some int) bool { return x.dice.Intn(100) < some }

func (x *both) list(most int) (l []api.Field) {
	for range x.dice.Intn(most) {
		l = append(l, api.Field{Name: string(rune('a' + x.dice.Intn(5))), Value: strings.Repeat("~", x.dice.Intn(3)*x.dice.Intn(160))})
	}
	return l
}

func (x *both) asks() {
	r := api.Request{Method: "GET", Path: "/", Host: []string{"h", "i", "j"}[x.dice.Intn(3)], Fields: x.list(3)}
	if x.seldom(60) {
		r.Body = some(x.dice.Intn(5) * x.dice.Intn(900))
	}
	switch x.dice.Intn(30) {
	case 0:
		r.Path = ""
	case 1:
		r.Body = some(api.MaxBody + 1)
	case 2:
		r.Fields = x.list(35)
	case 3:
		r.Fields = append(r.Fields, api.Field{Name: "cookie", Value: "a; b; a"})
	}
	got, err := x.c.Ask(r)
	want, wrong := x.m.ask(r)
	x.note("Ask *%d *%d: %d, want %d", len(r.Fields), len(r.Body), got, want)
	x.check("the stream", got == want)
	x.say("Ask", err, wrong)
}

// id of a stream: most often of one of which something may come.
func (x *both) id() int {
	var l []int
	for i, c := range x.m.calls {
		if !c.whole && (!c.stopped || x.seldom(10)) {
			l = append(l, 2*i+1)
		}
	}
	if len(l) == 0 || x.dice.Intn(600) == 0 {
		return x.dice.Intn(2*len(x.m.calls)+4) + 1
	}
	return l[x.dice.Intn(len(l))]
}

// head of a reply, most often of one that is right.
func (x *both) head(id int) []api.Frame {
	l := x.list(4)
	if c := x.m.find(id); c == nil || len(c.fields) == 0 || x.seldom(5) {
		l = append([]api.Field{{Name: ":code", Value: []string{"200", "404", "599", "100", "20"}[x.dice.Intn(5)]}}, l...)
	}
	b, _ := x.coder.Encode(l)
	r := frame.Split(id, b, x.seldom(25))
	if x.seldom(20) {
		r[len(r)-1].Flags &^= api.Whole
		r = append(r, fr(api.More, api.Whole|x.dice.Intn(2), id, ""))
	}
	return r
}

func (x *both) frames() []api.Frame {
	id, n := x.id(), x.dice.Intn(300)
	more := 2 * x.dice.Intn(128)
	switch k := x.dice.Intn(100); {
	case k < 25:
		return x.head(id)
	case k < 50:
		if x.seldom(40) {
			n = x.dice.Intn(1025)
		}
		return []api.Frame{fr(api.Data, more|flags(x.seldom(25)), id, string(some(n)))}
	case k < 55:
		return []api.Frame{fr(api.Stop, more, id, "abcd")}
	case k < 70:
		return []api.Frame{fr(api.Wide, more, 0, word(1+2*n))}
	case k < 82:
		return []api.Frame{fr(api.Wide, more, id, word(1+2*n))}
	case k < 90:
		f := set(api.SetWindow, x.dice.Intn(3000), api.SetTable, x.dice.Intn(300), api.SetWindow, x.dice.Intn(5000))
		f.Body = f.Body[:6*x.dice.Intn(4)]
		return []api.Frame{f}
	case k < 92:
		return []api.Frame{fr(api.Ping, more|x.dice.Intn(2), 0, "12345678")}
	case k < 95:
		return []api.Frame{fr(8+x.dice.Intn(248), more, x.dice.Intn(50), string(some(n)))}
	case k < 96 && x.seldom(20):
		return []api.Frame{farewell(x.dice.Intn(2*len(x.m.calls)+3), n)}
	case k < 97 && x.seldom(20):
		return x.strange(id)
	}
	return nil
}

// strange frames, most of them wrong.
func (x *both) strange(id int) []api.Frame {
	switch x.dice.Intn(5) {
	case 0:
		return []api.Frame{fr(x.dice.Intn(9), x.dice.Intn(256), x.dice.Intn(9), string(some(x.dice.Intn(12))))}
	case 1:
		return []api.Frame{wide(0, api.MaxWord-x.dice.Intn(2000))}
	case 2:
		return []api.Frame{wide(id, api.MaxWord-x.dice.Intn(2000))}
	case 3:
		return []api.Frame{set(api.SetWindow, api.MaxWord)}
	}
	return []api.Frame{hd(id, false, string(some(x.dice.Intn(9))))}
}

func (x *both) feeds() {
	for _, f := range x.frames() {
		b := bytesOf(x.t, f)
		x.note("Feed %s", written(f))
		for len(b) > 0 {
			n := len(b)
			if x.seldom(30) {
				n = 1 + x.dice.Intn(n)
			}
			x.say("Feed", x.c.Feed(b[:n]), x.m.feed(b[:n]))
			b = b[n:]
		}
	}
}

func (x *both) step() {
	switch k := x.dice.Intn(20); {
	case k < 4:
		x.asks()
	case k < 5:
		n := []int{0, 1, 77, api.MaxWord, api.MaxWord + 1}[x.dice.Intn(5)]
		x.note("Grant %d", n)
		x.say("Grant", x.c.Grant(n), x.m.grant(n))
	default:
		x.feeds()
	}
	x.check("Open", slices.Equal(x.c.Open(), x.m.open()))
	code := 0
	if n := len(x.m.byes); n > 0 {
		code = x.m.byes[n-1][1]
	}
	x.check("Code", x.c.Code() == code)
	if x.seldom(30) {
		x.takes()
	}
	if x.seldom(10) {
		x.replies()
	}
}

func (x *both) takes() {
	got, want := x.c.Out(), x.m.out
	x.m.out = nil
	x.note("Out %s, want %s", writtenAll(framesOf(x.t, got)), writtenAll(framesOf(x.t, want)))
	x.check("Out", bytes.Equal(got, want))
}

func (x *both) replies() {
	for id := -1; id < 2*len(x.m.calls)+3; id++ {
		got, err := x.c.Reply(id)
		want, wrong := x.m.reply(id)
		x.note("Reply %d: %d %d %d, want %d %d %d", id, got.Code, len(got.Fields), len(got.Body), want.Code, len(want.Fields), len(want.Body))
		x.check("the reply", got.Code == want.Code && slices.Equal(got.Fields, want.Fields) && bytes.Equal(got.Body, want.Body))
		x.say("Reply", err, plain.Told(wrong))
	}
}

// Calls and frames in any order, held against the model.
func TestModel(t *testing.T) {
	seen := map[string]int{}
	for seed := range 1500 {
		coder, _ := head.New(api.MaxTable)
		x := &both{t: t, dice: rand.New(rand.NewSource(int64(seed))), c: New(), m: newModel(), coder: coder, seen: seen}
		for range 300 {
			if x.step(); x.m.wrong {
				break
			}
		}
		for range 10 { // wrong, or not
			x.step()
		}
		x.takes()
		x.replies()
	}
	for _, want := range []string{
		"Ask OK", "Ask ErrState", "Ask ErrSyntax", "Ask ErrFull", "Feed OK", "Feed ErrSyntax", "Feed ErrState", "Grant OK", "Grant ErrRange", "Grant ErrState",
		"Reply OK", "Reply ErrNone", "Reply ErrState", "Reply ErrShort", "Reply ErrShape", "Reply ErrSyntax",
	} {
		if seen[want] < 20 {
			t.Errorf("%s: seen %d times", want, seen[want])
		}
	}
}
