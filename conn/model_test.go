package conn

import (
	"bytes"
	"fmt"
	"math/rand"
	"slices"
	"strings"
	"testing"

	"tollgate/api"
	"tollgate/frame"
	"tollgate/head"
	"tollgate/plain"
)

// The model goes by the words of the chapter: plain numbers for windows, and of a stream who has ended.

type modelStream struct {
	id               int
	ours, theirs     bool // we have ended; the other side has
	stopped, passed  bool // by a Stop; and so that what still comes is passed over
	in, out, came    int
	wait             []byte
	end              bool
	since            int // when it began to wait; 0: it does not
	refused, notSeen bool
}

func (s *modelStream) closed() bool {
	return s.stopped || s.refused || s.notSeen || s.ours && s.theirs
}

type model struct {
	bytes           []byte
	out             []byte
	frames          []api.Frame // of a head that is not whole
	heard, clock    int
	over            bool
	coder           *head.Coder
	streams         []*modelStream
	last, first     int
	in, outAll, all int
}

func newModel() *model {
	c, _ := head.New(api.MaxTable)
	m := &model{coder: c, first: api.Window, in: api.Window, outAll: api.Window}
	m.say(api.Set, 0, 0, nil)
	return m
}

func (m *model) say(kind, flags, id int, body []byte) {
	b, err := frame.Encode(api.Frame{Kind: kind, Flags: flags, Stream: id, Body: body})
	if err != nil {
		panic(err)
	}
	m.out = append(m.out, b...)
}

// find a stream: nil if it is Idle.
func (m *model) find(id int) *modelStream {
	for _, s := range m.streams {
		if s.id == id {
			return s
		}
	}
	if id < 1 || id > m.last || id%2 == 0 {
		return nil
	}
	s := &modelStream{id: id, notSeen: true}
	m.streams = append(m.streams, s)
	return s
}

func four(n int) []byte { return []byte{byte(n >> 24), byte(n >> 16), byte(n >> 8), byte(n)} }

func (m *model) failed(code int) []api.Event {
	m.over = true
	m.say(api.Bye, 0, 0, append(four(m.last), four(code)...))
	return []api.Event{{What: api.Failed, Code: code}}
}

func (m *model) stop(s *modelStream, code int) {
	s.stopped, s.passed = true, true
	s.wait, s.end, s.since = nil, false, 0
	m.say(api.Stop, 0, s.id, four(code))
}

func (m *model) reset(s *modelStream, code int) []api.Event {
	m.stop(s, code)
	return []api.Event{{What: api.Reset, Stream: s.id, Code: code}}
}

func (m *model) feed(b []byte) (l []api.Event) {
	m.bytes = append(m.bytes, b...)
	for !m.over && len(m.bytes) >= 9 {
		b := m.bytes
		n := int(b[0])<<16 + int(b[1])<<8 + int(b[2])
		if n > 1024 {
			return append(l, m.failed(api.CodeSize)...)
		}
		if b[5] >= 128 {
			return append(l, m.failed(api.CodeProto)...)
		}
		if len(b) < 9+n {
			break
		}
		f := api.Frame{Kind: int(b[3]), Flags: int(b[4]), Stream: frame.Number(b[5:9]), Body: bytes.Clone(b[9 : 9+n])}
		m.bytes = b[9+n:]
		l = append(l, m.frame(f)...)
	}
	return l
}

func (m *model) frame(f api.Frame) []api.Event {
	m.heard++
	if m.heard == 1 && f.Kind != api.Set {
		return m.failed(api.CodeProto)
	}
	if code := frame.Check(f); code != 0 {
		return m.failed(code)
	}
	within := len(m.frames) > 0
	if within != (f.Kind == api.More) || within && (f.Stream != m.frames[0].Stream || len(m.frames) == 16) {
		return m.failed(api.CodeProto)
	}
	end := f.Flags%2 == 1
	switch f.Kind {
	case api.Head, api.More:
		m.frames = append(m.frames, f)
		if f.Flags/4%2 == 1 {
			return m.head()
		}
	case api.Data:
		return m.data(f, end)
	case api.Stop:
		s := m.find(f.Stream)
		switch {
		case s == nil:
			return m.failed(api.CodeProto)
		case !s.closed():
			s.stopped, s.wait, s.end, s.since = true, nil, false, 0
			return []api.Event{{What: api.Reset, Stream: s.id, Code: frame.Number(f.Body)}}
		}
	case api.Set:
		if !end {
			return m.set(f.Body)
		}
	case api.Ping:
		if !end {
			m.say(api.Ping, api.End, 0, f.Body)
		}
	case api.Bye:
		return []api.Event{{What: api.Ended, Code: frame.Number(f.Body[4:8])}}
	case api.Wide:
		return m.wide(f.Stream, frame.Number(f.Body))
	}
	return nil
}

func (m *model) head() []api.Event {
	id, end := m.frames[0].Stream, m.frames[0].Flags%2 == 1
	var b []byte
	for _, f := range m.frames {
		b = append(b, f.Body...)
	}
	m.frames = nil
	l, err := m.coder.Decode(b)
	if err != nil {
		return m.failed(api.CodeHead)
	}
	s := m.find(id)
	switch {
	case s == nil && (id%2 == 0 || id <= m.last):
		return m.failed(api.CodeProto)
	case s == nil:
		many := 0
		for _, other := range m.streams {
			if !other.closed() {
				many++
			}
		}
		m.last = id
		s = &modelStream{id: id, in: api.Window, out: m.first, refused: many >= 16}
		m.streams = append(m.streams, s)
		if s.refused {
			return m.reset(s, api.CodeRefused)
		}
	case s.passed:
		return nil
	case s.closed():
		return m.failed(api.CodeClosed)
	case s.theirs:
		return m.reset(s, api.CodeClosed)
	}
	s.theirs = end
	return []api.Event{{What: api.Asked, Stream: id, Fields: l, End: end}}
}

func (m *model) data(f api.Frame, end bool) []api.Event {
	s, n := m.find(f.Stream), len(f.Body)
	switch {
	case s == nil:
		return m.failed(api.CodeProto)
	case s.passed:
	case s.closed():
		return m.failed(api.CodeClosed)
	case s.theirs:
		return m.reset(s, api.CodeClosed)
	}
	if n > m.in {
		return m.failed(api.CodeFlow)
	}
	m.in -= n
	if s.passed {
		return nil
	}
	if n > s.in {
		return m.reset(s, api.CodeFlow)
	}
	s.in -= n
	s.came += n
	m.all += n
	s.theirs = end
	return []api.Event{{What: api.Came, Stream: s.id, Body: f.Body, End: end}}
}

func (m *model) set(b []byte) []api.Event {
	for ; len(b) > 0; b = b[6:] {
		name, n := int(b[0])<<8+int(b[1]), frame.Number(b[2:6])
		if name == api.SetTable {
			m.coder.Resize(min(n, api.MaxTable))
		}
		if name != api.SetWindow {
			continue
		}
		for _, s := range m.streams {
			if s.closed() {
				continue
			}
			if s.out += n - m.first; s.out > api.MaxWindow {
				return m.failed(api.CodeFlow)
			}
		}
		m.first = n
	}
	m.say(api.Set, api.End, 0, nil)
	m.goOn()
	return nil
}

func (m *model) wide(id, by int) []api.Event {
	if id == 0 {
		if m.outAll+by > api.MaxWindow {
			return m.failed(api.CodeFlow)
		}
		m.outAll += by
		m.goOn()
		return nil
	}
	s := m.find(id)
	switch {
	case s == nil:
		return m.failed(api.CodeProto)
	case s.closed():
		return nil
	case s.out+by > api.MaxWindow:
		return m.reset(s, api.CodeFlow)
	}
	s.out += by
	m.goOn()
	return nil
}

// goOn says one piece after the other: of those that can go the one that waits the longest.
func (m *model) goOn() {
	for {
		var first *modelStream
		for _, s := range m.streams {
			if s.since > 0 && min(s.out, m.outAll) > 0 && (first == nil || s.since < first.since) {
				first = s
			}
		}
		if first == nil {
			return
		}
		m.piece(first, min(len(first.wait), first.out, m.outAll, 1024))
	}
}

func (m *model) piece(s *modelStream, n int) {
	flags := 0
	if s.end && n == len(s.wait) {
		flags, s.ours = api.End, true
	}
	m.say(api.Data, flags, s.id, s.wait[:n])
	s.wait = s.wait[n:]
	if n > 0 {
		s.out -= n
		m.outAll -= n
	}
	if len(s.wait) == 0 {
		s.since, s.end = 0, false
	}
}

func (m *model) answer(id int, l []api.Field, end bool) api.Errno {
	s := m.find(id)
	if m.over || s == nil || s.closed() || s.ours || s.since > 0 {
		return api.ErrState
	}
	b, err := m.coder.Encode(l)
	if err != nil {
		return api.ErrFull
	}
	for _, f := range frame.Split(id, b, end) {
		m.say(f.Kind, f.Flags, id, f.Body)
	}
	s.ours = end
	return api.OK
}

func (m *model) send(id int, body []byte, end bool) api.Errno {
	s := m.find(id)
	if m.over || s == nil || s.closed() || s.ours || s.end {
		return api.ErrState
	}
	s.wait = append(s.wait, body...)
	s.end = end
	switch {
	case len(s.wait) == 0 && end:
		m.piece(s, 0)
	case len(s.wait) > 0 && s.since == 0:
		m.clock++
		s.since = m.clock
	}
	m.goOn()
	return api.OK
}

func (m *model) halt(id, code int) api.Errno {
	s := m.find(id)
	switch {
	case m.over:
		return api.ErrState
	case code != code&api.MaxWord:
		return api.ErrRange
	case s == nil:
		return api.ErrState
	}
	m.stop(s, code)
	return api.OK
}

func (m *model) bye(code int) api.Errno {
	switch {
	case m.over:
		return api.ErrState
	case code != code&api.MaxWord:
		return api.ErrRange
	}
	m.say(api.Bye, 0, 0, append(four(m.last), four(code)...))
	return api.OK
}

func (m *model) used(id, n int) api.Errno {
	s := m.find(id)
	if s == nil {
		s = &modelStream{notSeen: true}
	}
	switch {
	case m.over:
		return api.ErrState
	case n < 0 || n > s.came:
		return api.ErrRange
	}
	s.came -= n
	m.all -= n
	if left := m.in + m.all; left < 1000 {
		m.in += 2000 - left
		m.say(api.Wide, 0, 0, four(2000-left))
	}
	if left := s.in + s.came; left < 1000 && !s.closed() && !s.theirs {
		s.in += 2000 - left
		m.say(api.Wide, 0, id, four(2000-left))
	}
	return api.OK
}

func (m *model) queued(id int) int {
	if s := m.find(id); s != nil {
		return len(s.wait)
	}
	return 0
}

// both is a Conn and its model, that are told the same.
type both struct {
	t    *testing.T
	dice *rand.Rand
	c    *Conn
	m    *model
	side *head.Coder // the other side's
	did  []string
	seen map[string]int
	next int
}

func (x *both) check(what string, same bool) {
	if !same {
		x.t.Fatalf("%s is otherwise, behind: %s", what, strings.Join(x.did, "\n"))
	}
}

func (x *both) note(format string, a ...any) {
	x.did = append(x.did, fmt.Sprintf(format, a...))
}

func (x *both) say(err error, want api.Errno) {
	x.note("  %v %v", err, want)
	x.check("the error", plain.Told(err) == want)
	x.seen[want.Error()]++
}

func (x *both) feed(b []byte) {
	for len(b) > 0 {
		n := len(b)
		if x.dice.Intn(3) == 0 {
			n = 1 + x.dice.Intn(n)
		}
		got, want := x.c.Feed(b[:n]), x.m.feed(b[:n])
		b = b[n:]
		x.note("  %s, want %s", toldAll(got), toldAll(want))
		x.check("what is told", toldAll(got) == toldAll(want) && sameBodies(got, want))
		for _, e := range want {
			x.seen[strings.Fields(told(e))[0]+fmt.Sprint(" ", e.Code)]++
		}
	}
}

// id of a stream: one that is there, seldom another one.
func (x *both) id() int {
	switch x.dice.Intn(300) {
	case 0:
		return x.dice.Intn(3) - 1
	case 1:
		return x.next + 2*x.dice.Intn(3)
	case 2:
		return 2 * x.dice.Intn(10)
	case 3, 4:
		return max(1, x.next-2*(1+x.dice.Intn(4)))
	}
	var l []int
	for _, s := range x.m.streams {
		if !s.closed() || s.passed && x.dice.Intn(4) == 0 {
			l = append(l, s.id)
		}
	}
	if len(l) == 0 {
		return x.next
	}
	return l[x.dice.Intn(len(l))]
}

// list of fields, as the other side encodes it.
func (x *both) list() (l []api.Field) {
	for range x.dice.Intn(4) {
		l = append(l, api.Field{Name: string(rune('a' + x.dice.Intn(5))), Value: strings.Repeat("~", x.dice.Intn(3)*x.dice.Intn(160))})
	}
	return l
}

// opens a stream, or is another head of it.
func (x *both) opens(id int) []api.Frame {
	if id == x.next {
		x.next += 2
	}
	b, _ := x.side.Encode(x.list())
	l := frame.Split(id, b, x.dice.Intn(4) == 0)
	if x.dice.Intn(5) == 0 {
		l[len(l)-1].Flags &^= api.Whole
		l = append(l, api.Frame{Kind: api.More, Flags: api.Whole, Stream: id})
	}
	return l
}

func (x *both) frames() []api.Frame {
	id, n := x.id(), x.dice.Intn(300)
	if id == x.next {
		return x.opens(id)
	}
	if x.dice.Intn(3) == 0 {
		n = x.dice.Intn(1025)
	}
	flags := 2 * x.dice.Intn(4) // End is told apart
	if x.dice.Intn(8) == 0 {
		flags++
	}
	switch k := x.dice.Intn(40); {
	case k < 8:
		return []api.Frame{{Kind: api.Data, Flags: flags, Stream: max(id, 0), Body: some(n)}}
	case k < 18:
		if k < 16 {
			id = x.next
		}
		return x.opens(max(id, 0))
	case k < 19:
		return []api.Frame{{Kind: api.Stop, Flags: flags, Stream: max(id, 0), Body: four(x.dice.Intn(1 << 32))}}
	case k < 22:
		b := slices.Concat([]byte{0, 4}, four(x.dice.Intn(3000)), []byte{0, 1}, four(x.dice.Intn(9000)), []byte{0, 4}, four(x.dice.Intn(5000)))
		return []api.Frame{{Kind: api.Set, Flags: flags &^ 1, Body: b[:6*x.dice.Intn(4)]}}
	case k < 23:
		return []api.Frame{{Kind: api.Ping, Flags: flags, Body: some(8)}}
	case k < 24:
		return []api.Frame{{Kind: api.Bye, Flags: flags, Body: some(8 + n%5)}}
	case k < 29:
		return []api.Frame{{Kind: api.Wide, Flags: flags, Body: four(1 + n)}}
	case k < 38:
		return []api.Frame{{Kind: api.Wide, Flags: flags, Stream: max(id, 0), Body: four(1 + n)}}
	case k < 39:
		return []api.Frame{{Kind: 8 + n%240, Flags: flags, Stream: max(id, 0), Body: some(n)}}
	}
	return x.strange(max(id, 0))
}

// strange frames, most of them wrong.
func (x *both) strange(id int) []api.Frame {
	switch x.dice.Intn(30) {
	case 0:
		return []api.Frame{{Kind: x.dice.Intn(9), Flags: x.dice.Intn(256), Stream: x.dice.Intn(9), Body: some(x.dice.Intn(12))}}
	case 1:
		return []api.Frame{{Kind: api.Wide, Body: four(api.MaxWord - x.dice.Intn(2000))}}
	case 2:
		return []api.Frame{{Kind: api.Head, Flags: api.Whole, Stream: id, Body: some(x.dice.Intn(9))}}
	case 3:
		return []api.Frame{{Kind: api.Set, Body: append([]byte{0, 4}, four(api.MaxWord)...)}}
	case 4, 5, 6, 7, 8, 9, 10:
		return []api.Frame{{Kind: api.Wide, Stream: id, Body: four(api.MaxWord - x.dice.Intn(2000))}}
	}
	return nil
}

func (x *both) step() {
	id, end := x.id(), x.dice.Intn(6) == 0
	code := x.dice.Intn(10)
	if code == 9 {
		code = []int{-1, 1 << 31, api.MaxWord, 0}[x.dice.Intn(4)]
	}
	switch x.dice.Intn(12) {
	case 0:
		l := x.list()
		if x.dice.Intn(10) == 0 {
			l = make([]api.Field, 41)
		}
		x.note("Answer %d %d %v", id, len(l), end)
		x.say(x.c.Answer(id, l, end), x.m.answer(id, l, end))
	case 1, 2, 3:
		n := x.dice.Intn(4) * x.dice.Intn(700)
		x.note("Send %d %d %v", id, n, end)
		x.say(x.c.Send(id, some(n), end), x.m.send(id, some(n), end))
	case 4, 5:
		n := x.dice.Intn(500)
		if s := x.m.find(id); s != nil && x.dice.Intn(3) > 0 {
			n = s.came
		}
		n -= x.dice.Intn(20) / 19
		x.note("Used %d %d", id, n)
		x.say(x.c.Used(id, n), x.m.used(id, n))
	case 6:
		if x.dice.Intn(4) == 0 {
			x.note("Stop %d %d", id, code)
			x.say(x.c.Stop(id, code), x.m.halt(id, code))
		}
	case 7:
		if x.dice.Intn(9) == 0 {
			x.note("Bye %d", code)
			x.say(x.c.Bye(code), x.m.bye(code))
		}
	default:
		for _, f := range x.frames() {
			b, err := frame.Encode(f)
			x.note("Feed %d %d %d *%d %v", f.Kind, f.Flags, f.Stream, len(f.Body), err)
			x.feed(b)
		}
	}
	x.check("Over", x.c.Over() == x.m.over)
	for id := -1; id < x.next+2; id++ {
		x.check(fmt.Sprint("Queued of ", id), x.c.Queued(id) == x.m.queued(id))
	}
	if x.dice.Intn(3) == 0 {
		x.takes()
	}
}

func (x *both) takes() {
	got, want := x.c.Out(), x.m.out
	x.m.out = nil
	x.note("Out %s, want %s", framesOf(x.t, got), framesOf(x.t, want))
	x.check("Out", bytes.Equal(got, want))
}

// Calls and frames in any order, held against the model.
func TestModel(t *testing.T) {
	seen := map[string]int{}
	for seed := range 2000 {
		side, _ := head.New(api.MaxTable)
		x := &both{t: t, dice: rand.New(rand.NewSource(int64(seed))), c: New(), m: newModel(), side: side, seen: seen, next: 1}
		if x.dice.Intn(50) > 0 {
			x.feed(bytesOf(t, "4/0/0/"))
		}
		for range 400 {
			if x.step(); x.m.over {
				break
			}
		}
		for range 10 { // over, or not
			x.step()
		}
		x.takes()
	}
	for _, want := range []string{
		"Asked 0", "Came 0", "Reset 3", "Reset 5", "Reset 7", "Failed 1", "Failed 3", "Failed 5", "Failed 6", "Failed 9",
		"OK", "ErrState", "ErrRange", "ErrFull",
	} {
		if seen[want] < 5 {
			t.Errorf("%s: seen %d times", want, seen[want])
		}
	}
}
