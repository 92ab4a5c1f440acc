package fields

import (
	"bytes"
	"fmt"
	"slices"
	"strings"
	"testing"

	"tollgate/api"
	"tollgate/plain"
)

// f is a field.
func f(name, value string) api.Field { return api.Field{Name: name, Value: value} }

// list of fields, name and value by turns.
func list(words ...string) (l []api.Field) {
	for i := 0; i+1 < len(words); i += 2 {
		l = append(l, f(words[i], words[i+1]))
	}
	return l
}

// many fields, n of them.
func many(n int) (l []api.Field) {
	for i := range n {
		l = append(l, f(fmt.Sprintf("n-%d", i), fmt.Sprintf("v %d", i)))
	}
	return l
}

// some bytes, all values among them.
func some(n int) []byte {
	b := make([]byte, n)
	for i := range b {
		b[i] = byte(i*7 + i/251 + 13)
	}
	return b
}

func short(x any) string {
	s := fmt.Sprintf("%q", x)
	if len(s) > 200 {
		return s[:200] + " and more"
	}
	return s
}

// put is a request that is right, with fields of its own.
func put(words ...string) api.Request {
	return api.Request{Method: "PUT", Path: "/a", Host: "h", Fields: list(words...)}
}

// led is the list of put.
func led(words ...string) []api.Field {
	return append(list(":method", "PUT", ":path", "/a", ":host", "h"), list(words...)...)
}

// ok is a reply that is right, with fields of its own.
func ok(words ...string) api.Reply {
	return api.Reply{Code: 200, Fields: list(words...)}
}

// coded is a list that may become a reply.
func coded(words ...string) []api.Field {
	return append(list(":code", "200"), list(words...)...)
}

func sameAsk(a, b api.Request) bool {
	return a.Method == b.Method && a.Path == b.Path && a.Host == b.Host && slices.Equal(a.Fields, b.Fields) && bytes.Equal(a.Body, b.Body)
}

func sameTell(a, b api.Reply) bool {
	return a.Code == b.Code && slices.Equal(a.Fields, b.Fields) && bytes.Equal(a.Body, b.Body)
}

func checkList(t *testing.T, r api.Request, want []api.Field) {
	t.Helper()
	if l, err := List(r); err != nil || !slices.Equal(l, want) {
		t.Errorf("List of %s: got %s %v, want %s", short(r), short(l), err, short(want))
	}
}

func refuseList(t *testing.T, r api.Request, want api.Errno) {
	t.Helper()
	if l, err := List(r); len(l) != 0 || plain.Told(err) != want {
		t.Errorf("List of %s: got %s %v, want %v", short(r), short(l), err, want)
	}
}

func checkAsk(t *testing.T, l []api.Field, body []byte, want api.Request) {
	t.Helper()
	want.Body = body
	if r, err := Ask(l, body); err != nil || !sameAsk(r, want) {
		t.Errorf("Ask of %s: got %s %v, want %s", short(l), short(r), err, short(want))
	}
}

func refuseAsk(t *testing.T, l []api.Field, body []byte, want api.Errno) {
	t.Helper()
	if r, err := Ask(l, body); plain.Told(err) != want || !sameAsk(r, api.Request{}) {
		t.Errorf("Ask of %s with %d bytes: got %s %v, want %v", short(l), len(body), short(r), err, want)
	}
}

func checkTell(t *testing.T, r api.Reply, want []api.Field) {
	t.Helper()
	if l, err := Tell(r); err != nil || !slices.Equal(l, want) {
		t.Errorf("Tell of %s: got %s %v, want %s", short(r), short(l), err, short(want))
	}
}

func refuseTell(t *testing.T, r api.Reply, want api.Errno) {
	t.Helper()
	if l, err := Tell(r); len(l) != 0 || plain.Told(err) != want {
		t.Errorf("Tell of %s: got %s %v, want %v", short(r), short(l), err, want)
	}
}

func checkReply(t *testing.T, l []api.Field, body []byte, want api.Reply) {
	t.Helper()
	want.Body = body
	if r, err := Reply(l, body); err != nil || !sameTell(r, want) {
		t.Errorf("Reply of %s: got %s %v, want %s", short(l), short(r), err, short(want))
	}
}

func refuseReply(t *testing.T, l []api.Field, body []byte, want api.Errno) {
	t.Helper()
	if r, err := Reply(l, body); plain.Told(err) != want || !sameTell(r, api.Reply{}) {
		t.Errorf("Reply of %s with %d bytes: got %s %v, want %v", short(l), len(body), short(r), err, want)
	}
}

func checkClean(t *testing.T, l, want []api.Field) {
	t.Helper()
	if got := Clean(l); !slices.Equal(got, want) {
		t.Errorf("Clean of %s: got %s, want %s", short(l), short(got), short(want))
	}
}

// long text of n bytes.
func long(n int) string { return strings.Repeat("x", n) }
