package fields

import (
	"bytes"
	"slices"
	"testing"

	"tollgate/api"
)

// roomy list whose memory goes on behind its length, with other fields there.
func roomy(l []api.Field) []api.Field {
	r := make([]api.Field, len(l), len(l)+10)
	copy(r, l)
	fill(r[len(l):], f("behind", "it"))
	return r
}

func roomyBytes(b []byte) []byte {
	r := make([]byte, len(b), len(b)+10)
	copy(r, b)
	fill(r[len(b):], 'z')
	return r
}

// fill writes all over a list and what lies behind it.
func fill[T any](l []T, with T) {
	l = l[:cap(l)]
	for i := range l {
		l[i] = with
	}
}

// calls with lists, each telling what came of it as fields and bytes.
func calls() map[string]func(l []api.Field, body []byte) ([]api.Field, []byte, error) {
	return map[string]func(l []api.Field, body []byte) ([]api.Field, []byte, error){
		"List": func(l []api.Field, body []byte) ([]api.Field, []byte, error) {
			got, err := List(api.Request{Method: "PUT", Path: "/a", Host: "h", Fields: l, Body: body})
			return got, nil, err
		},
		"Ask": func(l []api.Field, body []byte) ([]api.Field, []byte, error) {
			r, err := Ask(l, body)
			return r.Fields, r.Body, err
		},
		"Tell": func(l []api.Field, body []byte) ([]api.Field, []byte, error) {
			got, err := Tell(api.Reply{Code: 200, Fields: l, Body: body})
			return got, nil, err
		},
		"Reply": func(l []api.Field, body []byte) ([]api.Field, []byte, error) {
			r, err := Reply(l, body)
			return r.Fields, r.Body, err
		},
		"Clean": func(l []api.Field, body []byte) ([]api.Field, []byte, error) {
			return Clean(l), nil, nil
		},
	}
}

// lists, some of which each call takes, and some of which it refuses.
func lists() [][]api.Field {
	return [][]api.Field{
		nil,
		list("a", "1"),
		list("a", "1", "cookie", "a; b", "b", "2", "cookie", "c"),
		list("connection", "a", "a", "1", "b", "2", "keep", "5"),
		list("a", "1", "host", "h"),
		led(), led("a", "1"), led("a", "1", "b", "2"), led("cookie", "a"),
		led("a", "1", "cookie", "a", "length", "3", "b", "2", "cookie", "c"),
		led("A", "1"), led("length", "4"),
		coded(), coded("a", "1"), coded("a", "1", "length", "3", "b", "2"),
		coded("connection", "a", "a", "1", "b", "2"), coded("host", "h"), list(":code", "2x0"),
	}
}

// What is handed in is not changed, nor what lies behind it, and that is not read.
func TestHandedIn(t *testing.T) {
	for name, call := range calls() {
		for _, l := range lists() {
			want, wantBody, wantErr := call(l, []byte("tea"))
			in, body := roomy(l), roomyBytes([]byte("tea"))
			got, gotBody, err := call(in, body)
			if err != wantErr || !slices.Equal(got, want) || !bytes.Equal(gotBody, wantBody) {
				t.Errorf("%s of %s: other memory behind it, and it is %s %q %v", name, short(l), short(got), gotBody, err)
			}
			if !slices.Equal(in[:cap(in)], roomy(l)[:cap(in)]) || !bytes.Equal(body[:cap(body)], roomyBytes([]byte("tea"))[:cap(body)]) {
				t.Errorf("%s of %s: what was handed in is changed", name, short(l))
			}
			if err != nil && (len(got) > 0 || len(gotBody) > 0) {
				t.Errorf("%s of %s: got %s %q with %v", name, short(l), short(got), gotBody, err)
			}
		}
	}
}

// What comes out shares no memory with what is handed in, nor with what came out ahead of it.
func TestNewMemory(t *testing.T) {
	taken := map[string]int{}
	for name, call := range calls() {
		for _, l := range lists() {
			in, body := roomy(l), roomyBytes([]byte("tea"))
			got, gotBody, err := call(in, body)
			if err != nil {
				continue
			}
			taken[name]++
			want, wantBody := slices.Clone(got), bytes.Clone(gotBody)
			other, otherBody, _ := call(in, body)
			fill(in, f("x", "y"))
			fill(body, 'x')
			fill(other, f("x", "y"))
			fill(otherBody, 'x')
			if !slices.Equal(got, want) || !bytes.Equal(gotBody, wantBody) {
				t.Errorf("%s of %s: it shares memory", name, short(l))
			}
		}
	}
	for name := range calls() {
		if taken[name] < 4 {
			t.Errorf("%s took %d lists", name, taken[name])
		}
	}
}

// The memory of what comes out is the caller's, up to its end.
func TestWrittenInto(t *testing.T) {
	for name, call := range calls() {
		for _, l := range lists() {
			in, body := roomy(l), roomyBytes([]byte("tea"))
			got, gotBody, _ := call(in, body)
			fill(got, f("x", "y"))
			fill(gotBody, 'x')
			if !slices.Equal(in[:cap(in)], roomy(l)[:cap(in)]) || !bytes.Equal(body[:cap(body)], roomyBytes([]byte("tea"))[:cap(body)]) {
				t.Errorf("%s of %s: what comes out is what was handed in", name, short(l))
			}
			again, againBody, _ := call(in, body)
			want, wantBody, _ := call(roomy(l), []byte("tea"))
			if !slices.Equal(again, want) || !bytes.Equal(againBody, wantBody) {
				t.Errorf("%s of %s: it answers otherwise now", name, short(l))
			}
		}
	}
}
