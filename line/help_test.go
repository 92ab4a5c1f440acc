package line

import (
	"bytes"
	"fmt"
	"slices"
	"testing"

	"tollgate/api"
	"tollgate/plain"
)

func short(s string) string {
	if len(s) > 80 {
		return fmt.Sprintf("%q and %d more", s[:80], len(s)-80)
	}
	return fmt.Sprintf("%q", s)
}

// some bytes, all values among them.
func some(n int) []byte {
	b := make([]byte, n)
	for i := range b {
		b[i] = byte(i*7 + i/251 + 13)
	}
	return b
}

// list of n fields.
func list(n int) (l []api.Field) {
	for i := range n {
		l = append(l, api.Field{Name: fmt.Sprintf("n-%d", i), Value: fmt.Sprintf("v %d", i)})
	}
	return l
}

// lines of fields; they are not written by the program.
func lines(l []api.Field) (s string) {
	for _, f := range l {
		s += f.Name + ": " + f.Value + "\r\n"
	}
	return s
}

// fill writes all over a list and what lies behind it.
func fill[T any](l []T, with T) {
	l = l[:cap(l)]
	for i := range l {
		l[i] = with
	}
}

func sameAsk(a, b api.Request) bool {
	return a.Method == b.Method && a.Path == b.Path && a.Host == b.Host && slices.Equal(a.Fields, b.Fields) && bytes.Equal(a.Body, b.Body)
}

func sameTell(a, b api.Reply) bool {
	return a.Code == b.Code && slices.Equal(a.Fields, b.Fields) && bytes.Equal(a.Body, b.Body)
}

// get is a request that is right.
func get(l ...api.Field) api.Request {
	return api.Request{Method: "GET", Path: "/", Host: "h", Fields: l}
}

func checkAsk(t *testing.T, r api.Request, want string) {
	t.Helper()
	if b, err := Ask(r); err != nil || string(b) != want {
		t.Errorf("Ask: got %s %v, want %s", short(string(b)), err, short(want))
	}
}

func refuseAsk(t *testing.T, r api.Request, want api.Errno) {
	t.Helper()
	if b, err := Ask(r); b != nil || plain.Told(err) != want {
		t.Errorf("Ask of %s: got %d bytes, %v, want %v", short(fmt.Sprintf("%q", r)), len(b), err, want)
	}
}

func checkReadAsk(t *testing.T, s string, want api.Request, used int) {
	t.Helper()
	if q, n, err := ReadAsk([]byte(s)); err != nil || n != used || !sameAsk(q, want) {
		t.Errorf("ReadAsk of %s: got %s %d %v, want %d", short(s), short(fmt.Sprintf("%q", q)), n, err, used)
	}
}

func refuseReadAsk(t *testing.T, s string, want api.Errno) {
	t.Helper()
	q, n, err := ReadAsk([]byte(s))
	if plain.Told(err) != want || n != 0 || !sameAsk(q, api.Request{}) {
		t.Errorf("ReadAsk of %s: got %s %d %v, want %v", short(s), short(fmt.Sprintf("%q", q)), n, err, want)
	}
}

func checkTell(t *testing.T, r api.Reply, size int, want string) {
	t.Helper()
	if b, err := Tell(r, size); err != nil || string(b) != want {
		t.Errorf("Tell by %d: got %s %v, want %s", size, short(string(b)), err, short(want))
	}
}

func refuseTell(t *testing.T, r api.Reply, size int, want api.Errno) {
	t.Helper()
	if b, err := Tell(r, size); b != nil || plain.Told(err) != want {
		t.Errorf("Tell of %s by %d: got %d bytes, %v, want %v", short(fmt.Sprint(r)), size, len(b), err, want)
	}
}

// how a reply is read.
type how struct{ bare, closed bool }

func allWays() []how { return []how{{false, false}, {false, true}, {true, false}, {true, true}} }

func checkReadTell(t *testing.T, s string, h how, want api.Reply, used int) {
	t.Helper()
	if a, n, err := ReadTell([]byte(s), h.bare, h.closed); err != nil || n != used || !sameTell(a, want) {
		t.Errorf("ReadTell of %s %+v: got %s %d %v, want %d", short(s), h, short(fmt.Sprint(a)), n, err, used)
	}
}

func refuseReadTell(t *testing.T, s string, h how, want api.Errno) {
	t.Helper()
	a, n, err := ReadTell([]byte(s), h.bare, h.closed)
	if plain.Told(err) != want || n != 0 || !sameTell(a, api.Reply{}) {
		t.Errorf("ReadTell of %s %+v: got %s %d %v, want %v", short(s), h, short(fmt.Sprint(a)), n, err, want)
	}
}
