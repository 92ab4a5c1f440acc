package gate

import (
	"bytes"
	"fmt"
	"maps"
	"math"
	"slices"
	"strings"
	"testing"

	"tollgate/api"
	"tollgate/fields"
	"tollgate/frame"
	"tollgate/head"
	"tollgate/line"
	"tollgate/plain"
)

const (
	mostTime  = 1_000_000
	mostBody  = 8_000
	mostFrame = 1_024
)

// Codes of Stop and Bye.
const (
	proto    = 1
	flowCode = 3
	closed   = 5
	refused  = 7
)

// Numbers that no time may be.
var noTimes = []int{-1, -2, -mostTime, math.MinInt32, math.MinInt + 1, math.MinInt, mostTime + 1, mostTime + 2, 2 * mostTime, math.MaxInt32, math.MaxUint32 + 2, math.MaxInt - 1, math.MaxInt}

// roads lead all paths to one, but those of h below /a to two.
func roads() []api.Route {
	return []api.Route{{Path: "/", To: "one"}, {Host: "h", Path: "/a", To: "two"}}
}

// some bytes that are not alike from piece to piece.
func some(n int) []byte {
	b := make([]byte, n)
	for i := range b {
		b[i] = byte(i*13 + i/249 + 7)
	}
	return b
}

func xs(n int) string { return strings.Repeat("x", n) }

func get(path string) api.Request { return api.Request{Method: "GET", Path: path, Host: "h"} }

// with has one more field.
func with(r api.Request, name, value string) api.Request {
	r.Fields = append(slices.Clone(r.Fields), api.Field{Name: name, Value: value})
	return r
}

// post has a body of so many bytes.
func post(path string, n int) api.Request {
	return api.Request{Method: "POST", Path: path, Host: "h", Body: some(n)}
}

// told is a reply as lines; its fields are by turns a name and a value.
func told(t *testing.T, code int, body string, pairs ...string) []byte {
	t.Helper()
	a := api.Reply{Code: code, Body: []byte(body)}
	for p := range slices.Chunk(pairs, 2) {
		a.Fields = append(a.Fields, api.Field{Name: p[0], Value: p[1]})
	}
	b, err := line.Tell(a, 0)
	if err != nil {
		t.Fatal(err)
	}
	return b
}

// asked is what a place is asked, by a path without its route.
func asked(t *testing.T, r api.Request, path string) []byte {
	t.Helper()
	r.Path = path
	b, err := line.Ask(r)
	if err != nil {
		t.Fatal(err)
	}
	return b
}

func word(n int) string { return string([]byte{byte(n >> 24), byte(n >> 16), byte(n >> 8), byte(n)}) }

func flags(end bool) int {
	if end {
		return api.End
	}
	return 0
}

func fr(kind, flags, stream int, body string) api.Frame {
	return api.Frame{Kind: kind, Flags: flags, Stream: stream, Body: []byte(body)}
}

func stop(stream, code int) api.Frame { return fr(api.Stop, 0, stream, word(code)) }

func wide(stream, n int) api.Frame { return fr(api.Wide, 0, stream, word(n)) }

func data(stream int, end bool, body []byte) api.Frame {
	return fr(api.Data, flags(end), stream, string(body))
}

// pieces of a body, the last one with end.
func pieces(stream int, end bool, body []byte) (l []api.Frame) {
	for len(body) > mostFrame {
		l = append(l, data(stream, false, body[:mostFrame]))
		body = body[mostFrame:]
	}
	return append(l, data(stream, end, body))
}

func bytesOf(t *testing.T, l ...api.Frame) (b []byte) {
	t.Helper()
	for _, f := range l {
		x, err := frame.Encode(f)
		if err != nil {
			t.Fatal(err)
		}
		b = append(b, x...)
	}
	return b
}

// reply that came on a stream.
type reply struct {
	heads [][]api.Field
	body  []byte
	ends  int
}

// desk is a Gate under test, and its client.
type desk struct {
	t *testing.T
	*Gate
	coder, own *head.Coder // for what the client says, and for what it hears
	replies    map[int]*reply
	rest       []string // what else the Gate said
	held       bool     // the client grants nothing anew
}

// made has said Set, and heard what the Gate says to that.
func made(t *testing.T, routes []api.Route, rate, burst int) *desk {
	t.Helper()
	g, err := New(routes, rate, burst)
	if g == nil || err != nil {
		t.Fatalf("New: got %v, %v", g, err)
	}
	coder, _ := head.New(4096)
	own, _ := head.New(4096)
	d := &desk{t: t, Gate: g, coder: coder, own: own, replies: map[int]*reply{}}
	d.says(fr(api.Set, 0, 0, ""))
	d.hears("Set, Set end")
	return d
}

// fresh has roads, and a limit that nobody comes to.
func fresh(t *testing.T) *desk {
	t.Helper()
	return made(t, roads(), mostTime, mostTime)
}

// says frames, all at once, and takes what the Gate says to that.
func (d *desk) says(l ...api.Frame) {
	d.t.Helper()
	if err := d.Feed(bytesOf(d.t, l...)); err != nil {
		d.t.Fatalf("Feed: got %v", err)
	}
	d.takes()
}

// head of fields, by turns a name and a value.
func (d *desk) head(stream int, end bool, pairs ...string) []api.Frame {
	d.t.Helper()
	var l []api.Field
	for p := range slices.Chunk(pairs, 2) {
		l = append(l, api.Field{Name: p[0], Value: p[1]})
	}
	return d.headOf(stream, end, l)
}

func (d *desk) headOf(stream int, end bool, l []api.Field) []api.Frame {
	d.t.Helper()
	b, err := d.coder.Encode(l)
	if err != nil {
		d.t.Fatal(err)
	}
	return frame.Split(stream, b, end)
}

// frames of a request.
func (d *desk) frames(stream int, r api.Request) []api.Frame {
	d.t.Helper()
	body := r.Body
	r.Body = nil
	l, err := fields.List(r)
	if err != nil {
		d.t.Fatal(err)
	}
	all := d.headOf(stream, len(body) == 0, l)
	if len(body) > 0 {
		all = append(all, pieces(stream, true, body)...)
	}
	return all
}

// asks a request.
func (d *desk) asks(stream int, r api.Request) {
	d.t.Helper()
	d.says(d.frames(stream, r)...)
}

// takes what goes out; for bodies that come as much is granted anew.
func (d *desk) takes() {
	d.t.Helper()
	var block []byte
	for b := d.Out(); len(b) > 0; b = append(b, d.Out()...) {
		f, n, err := frame.Read(b)
		if err != nil {
			d.t.Fatalf("what goes out cannot be read: %v", err)
		}
		b = b[n:]
		switch f.Kind {
		case api.Head, api.More:
			if block = append(block, f.Body...); f.Flags&api.Whole != 0 {
				d.heard(f.Stream, block)
				block = nil
			}
		case api.Data:
			d.reply(f.Stream).body = append(d.reply(f.Stream).body, f.Body...)
			if len(f.Body) > 0 && !d.held {
				d.Feed(bytesOf(d.t, wide(0, len(f.Body)), wide(f.Stream, len(f.Body))))
			}
		default:
			d.rest = append(d.rest, written(f))
		}
		if f.Flags&api.End != 0 && (f.Kind == api.Head || f.Kind == api.Data) {
			d.reply(f.Stream).ends++
		}
	}
}

func (d *desk) heard(stream int, block []byte) {
	d.t.Helper()
	l, err := d.own.Decode(block)
	if err != nil {
		d.t.Fatalf("a head of %d: %v", stream, err)
	}
	d.reply(stream).heads = append(d.reply(stream).heads, l)
}

func (d *desk) reply(stream int) *reply {
	if d.replies[stream] == nil {
		d.replies[stream] = &reply{}
	}
	return d.replies[stream]
}

// written is a frame that is no part of a reply.
func written(f api.Frame) string {
	end := ""
	if f.Flags&api.End != 0 {
		end = " end"
	}
	switch f.Kind {
	case api.Stop:
		return fmt.Sprintf("Stop %d %d", f.Stream, frame.Number(f.Body))
	case api.Set:
		return "Set" + end
	case api.Ping:
		return fmt.Sprintf("Ping %s%s", f.Body, end)
	case api.Bye:
		return fmt.Sprintf("Bye %d %d", frame.Number(f.Body[:4]), frame.Number(f.Body[4:]))
	case api.Wide:
		return fmt.Sprintf("Wide %d %d", f.Stream, frame.Number(f.Body))
	}
	return "?"
}

// hears just these, beside replies, since it was asked last.
func (d *desk) hears(want string) {
	d.t.Helper()
	if got := strings.Join(d.rest, ", "); got != want {
		d.t.Errorf("said %q, want %q", got, want)
	}
	d.rest = nil
}

// gets just this reply, whole.
func (d *desk) gets(stream int, head, body string) {
	d.t.Helper()
	r := d.replies[stream]
	if r == nil {
		d.t.Errorf("no reply on %d", stream)
		return
	}
	if got := fmt.Sprint(r.heads); got != "["+head+"]" || string(r.body) != body || r.ends != 1 {
		d.t.Errorf("on %d: got %.300s %.40q *%d, %d ends, want %.300s %.40q *%d", stream, got, r.body, len(r.body), r.ends, head, body, len(body))
	}
}

// getsAlone a code as a reply.
func (d *desk) getsAlone(stream, code int) {
	d.t.Helper()
	d.gets(stream, fmt.Sprintf("[{:code %d} {length 3}]", code), fmt.Sprint(code))
}

// getsNothing on these.
func (d *desk) getsNothing(streams ...int) {
	d.t.Helper()
	for _, stream := range streams {
		if r := d.replies[stream]; r != nil {
			d.t.Errorf("a reply on %d: %v *%d", stream, r.heads, len(r.body))
		}
	}
}

func (d *desk) is(err error, want api.Errno) {
	d.t.Helper()
	if plain.Told(err) != want {
		d.t.Errorf("got %v, want %v", err, want)
	}
}

// waits asks which jobs wait.
func (d *desk) waits(ids ...int) {
	d.t.Helper()
	if got := d.Jobs(); !slices.Equal(got, ids) {
		d.t.Errorf("Jobs: got %v, want %v", got, ids)
	}
	for _, id := range ids {
		if _, _, err := d.Job(id); err != nil {
			d.t.Errorf("Job(%d): got %v", id, err)
		}
	}
}

// job that waits.
func (d *desk) job(id int, to string, ask []byte) {
	d.t.Helper()
	for range 2 {
		gotTo, got, err := d.Job(id)
		if gotTo != to || !bytes.Equal(got, ask) || err != nil {
			d.t.Errorf("Job(%d): got %q %.300q, %v, want %q %.300q", id, gotTo, got, err, to, ask)
		}
	}
}

// none of these is a job.
func (d *desk) none(ids ...int) {
	d.t.Helper()
	was := d.state()
	for _, id := range ids {
		to, ask, err := d.Job(id)
		if to != "" || len(ask) > 0 || plain.Told(err) != api.ErrNone {
			d.t.Errorf("Job(%d): got %q %q, %v, want ErrNone", id, to, ask, err)
		}
		d.is(d.Done(id, []byte("EDGE/1 200\r\nlength: 0\r\n\r\n"), false), api.ErrNone)
		d.is(d.Done(id, nil, true), api.ErrNone)
		d.is(d.Fail(id), api.ErrNone)
	}
	d.same(was)
}

// done is a job, and what the Gate says to that is taken.
func (d *desk) done(id int, tell []byte, closed bool) {
	d.t.Helper()
	d.is(d.Done(id, tell, closed), api.OK)
	d.takes()
	d.none(id)
}

func (d *desk) fails(id int) {
	d.t.Helper()
	d.is(d.Fail(id), api.OK)
	d.takes()
	d.none(id)
}

func (d *desk) ticks(now int) {
	d.t.Helper()
	d.is(d.Tick(now), api.OK)
}

// logged asks for all that was.
func (d *desk) logged(want ...api.Entry) {
	d.t.Helper()
	if got := d.Log(); !slices.Equal(got, want) {
		d.t.Errorf("Log: got %v, want %v", got, want)
	}
}

func entry(time, code, bytes, took int, method, path string) api.Entry {
	return api.Entry{Time: time, Code: code, Bytes: bytes, Took: took, Method: method, Path: path}
}

// state is all that is told: jobs, the log, and what came on streams.
func (d *desk) state() string {
	s := fmt.Sprint(d.Jobs(), d.Log())
	for _, id := range d.Jobs() {
		to, ask, err := d.Job(id)
		s += fmt.Sprintf(" %s %x %v", to, ask, err)
	}
	d.takes()
	for _, stream := range slices.Sorted(maps.Keys(d.replies)) {
		r := d.replies[stream]
		s += fmt.Sprintf(" %d %v %x %d", stream, r.heads, r.body, r.ends)
	}
	return s + strings.Join(d.rest, ",")
}

func (d *desk) same(was string) {
	d.t.Helper()
	if now := d.state(); now != was {
		d.t.Errorf("it is changed: %.600s, was %.600s", now, was)
	}
}
