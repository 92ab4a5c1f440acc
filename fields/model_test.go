package fields

import (
	"bytes"
	"math/rand"
	"regexp"
	"slices"
	"strconv"
	"strings"
	"testing"

	"tollgate/api"
	"tollgate/line"
	"tollgate/plain"
)

// The model works from the texts of a list, joined and cut by patterns.

var tokenPattern = regexp.MustCompile(`^[a-zA-Z0-9_-]{1,400}$`)

// between tells whether names are those that stay between two sides.
func between(name string) bool {
	return slices.Contains([]string{"connection", "coding", "keep", "upgrade"}, name)
}

func modelClean(l []api.Field) (left []api.Field) {
	for _, f := range l {
		out := between(f.Name) || f.Name == "length"
		for _, g := range l {
			if g.Name == "connection" && tokenPattern.MatchString(f.Name) && strings.Contains(", "+g.Value+", ", ", "+f.Name+", ") {
				out = true
			}
		}
		if !out {
			left = append(left, f)
		}
	}
	return left
}

// leads of a list, in order.
func leads(l []api.Field) (names []string) {
	for _, f := range l {
		if f.Name != "" && f.Name[0] == ':' {
			names = append(names, f.Name)
		}
	}
	return names
}

func modelAsk(l []api.Field, body []byte) (r api.Request, told api.Errno) {
	names := leads(l)
	slices.Sort(names)
	if !slices.Equal(names, []string{":host", ":method", ":path"}) || len(leads(l[:3])) != 3 {
		return api.Request{}, api.ErrShape
	}
	at := -1
	for i, f := range l {
		switch {
		case between(f.Name) || f.Name == "host":
			return api.Request{}, api.ErrShape
		case f.Name == "length" && f.Value != strconv.Itoa(len(body)):
			return api.Request{}, api.ErrShape
		case f.Name == ":host":
			r.Host = f.Value
		case f.Name == ":path":
			r.Path = f.Value
		case f.Name == ":method":
			r.Method = f.Value
		case f.Name == "length":
		case f.Name == "cookie" && at < 0:
			at = len(r.Fields)
			r.Fields = append(r.Fields, l[i])
		case f.Name == "cookie":
			r.Fields[at].Value += "; " + f.Value
		default:
			r.Fields = append(r.Fields, f)
		}
	}
	r.Body = body
	if _, err := line.Ask(r); err != nil {
		return api.Request{}, plain.Told(err)
	}
	return r, api.OK
}

func modelList(r api.Request) (l []api.Field, told api.Errno) {
	if _, err := line.Ask(r); err != nil {
		return nil, plain.Told(err)
	}
	l = list(":method", r.Method, ":path", r.Path, ":host", r.Host)
	for _, f := range r.Fields {
		for f.Name == "cookie" && strings.Contains(f.Value, "; ") {
			i := strings.Index(f.Value, "; ")
			l = append(l, api.Field{Name: "cookie", Value: f.Value[:i]})
			f.Value = f.Value[i+2:]
		}
		l = append(l, f)
	}
	return l, api.OK
}

func modelTell(r api.Reply) (l []api.Field, told api.Errno) {
	if _, err := line.Tell(r, 0); err != nil {
		return nil, plain.Told(err)
	}
	l = append(list(":code", strconv.Itoa(r.Code)), modelClean(r.Fields)...)
	if r.Code/100 != 1 && r.Code != 204 && r.Code != 304 {
		l = append(l, f("length", strconv.Itoa(len(r.Body))))
	}
	return l, api.OK
}

var codePattern = regexp.MustCompile(`^[1-5][0-9][0-9]$`)

func modelReply(l []api.Field, body []byte) (r api.Reply, told api.Errno) {
	if len(l) == 0 || l[0].Name != ":code" || len(leads(l)) != 1 {
		return api.Reply{}, api.ErrShape
	}
	if !codePattern.MatchString(l[0].Value) {
		return api.Reply{}, api.ErrSyntax
	}
	r.Code, _ = strconv.Atoi(l[0].Value)
	for _, f := range l[1:] {
		if f.Name != "length" {
			r.Fields = append(r.Fields, f)
		}
	}
	r.Body = body
	if _, err := line.Tell(r, 0); err != nil {
		return api.Reply{}, plain.Told(err)
	}
	return r, api.OK
}

// against holds all calls with a list against the model; it tells what Ask and Reply told.
func against(t *testing.T, l []api.Field, body []byte, texts [3]string, code int) (ask, reply api.Errno) {
	t.Helper()
	if got, want := Clean(l), modelClean(l); !slices.Equal(got, want) {
		t.Fatalf("Clean of %s: got %s, want %s", short(l), short(got), short(want))
	}
	r, err := Ask(l, body)
	want, ask := modelAsk(l, body)
	if plain.Told(err) != ask || !sameAsk(r, want) {
		t.Fatalf("Ask of %s with %d bytes: got %s %v, want %s %v", short(l), len(body), short(r), err, short(want), ask)
	}
	a, err := Reply(l, body)
	wantReply, reply := modelReply(l, body)
	if plain.Told(err) != reply || !sameTell(a, wantReply) {
		t.Fatalf("Reply of %s with %d bytes: got %s %v, want %s %v", short(l), len(body), short(a), err, short(wantReply), reply)
	}
	q := api.Request{Method: texts[0], Path: texts[1], Host: texts[2], Fields: l, Body: body}
	got, err := List(q)
	if wantList, told := modelList(q); plain.Told(err) != told || !slices.Equal(got, wantList) {
		t.Fatalf("List of %s: got %s %v, want %s %v", short(q), short(got), err, short(wantList), told)
	}
	p := api.Reply{Code: code, Fields: l, Body: body}
	got, err = Tell(p)
	if wantList, told := modelTell(p); plain.Told(err) != told || !slices.Equal(got, wantList) {
		t.Fatalf("Tell of %s: got %s %v, want %s %v", short(p), short(got), err, short(wantList), told)
	}
	return ask, reply
}

// oneOf some texts.
func oneOf(random *rand.Rand, texts ...string) string { return texts[random.Intn(len(texts))] }

// mostly the first text, now and then another one.
func mostly(random *rand.Rand, texts ...string) string {
	if random.Intn(15) > 0 {
		return texts[0]
	}
	return oneOf(random, texts...)
}

func randomField(random *rand.Rand, size int) api.Field {
	switch random.Intn(8) {
	case 0:
		return f("length", mostly(random, strconv.Itoa(size), "", "0", "1", "+1", "01", "x"))
	case 1, 2:
		return f("cookie", oneOf(random, "a", "b", "a; b", "", "; a", "a=1", mostly(random, "c", " a", "a ", "\n", long(300))))
	case 3:
		return f(mostly(random, "x_1", "connection", "keep", "upgrade", "coding", "host"), oneOf(random, "a", "a, b", "b, x_1", "", ", c", "a,b", "a, connection"))
	case 4:
		return f(mostly(random, "b", ":", ":x", ":code", ":method", ":path", ":host", "", "A", "a b"), "1")
	default:
		return f(oneOf(random, "a", "b", "c", "x_1"), mostly(random, oneOf(random, "a", "a; b", "", "1"), " a", "\x7f", long(401)))
	}
}

func randomList(random *rand.Rand, size int) (l []api.Field) {
	switch random.Intn(8) {
	case 0:
	case 1, 2, 3:
		l = list(":code", mostly(random, strconv.Itoa(100+random.Intn(500)), "99", "600", "099", "+20", "2x0", "20", "2000", ""))
	default:
		l = list(":method", mostly(random, "GET", "", "a b"), ":path", mostly(random, "/a", "", "/a b"), ":host", mostly(random, "h", "", " h"))
		random.Shuffle(3, func(i, j int) { l[i], l[j] = l[j], l[i] })
	}
	if random.Intn(20) == 0 && len(l) > 0 {
		at := random.Intn(len(l))
		l = slices.Delete(l, at, at+1)
	}
	n := random.Intn(8)
	if random.Intn(20) == 0 {
		n = 38 + random.Intn(12)
	}
	for range n {
		l = append(l, randomField(random, size))
	}
	if random.Intn(20) == 0 {
		random.Shuffle(len(l), func(i, j int) { l[i], l[j] = l[j], l[i] })
	}
	return l
}

func TestAgainstModel(t *testing.T) {
	random := rand.New(rand.NewSource(11))
	asks, replies := map[api.Errno]int{}, map[api.Errno]int{}
	for range 100_000 {
		size := random.Intn(4)
		if random.Intn(50) == 0 {
			size = api.MaxBody + random.Intn(2)
		}
		texts := [3]string{mostly(random, "GET", "", "a b"), mostly(random, "/a", "", "/a b"), mostly(random, "h", "", " h")}
		code := 100 + random.Intn(500)
		if random.Intn(10) == 0 {
			code = random.Intn(800) - 50
		}
		ask, reply := against(t, randomList(random, size), bytes.Repeat([]byte("b"), size), texts, code)
		asks[ask]++
		replies[reply]++
	}
	for _, e := range []api.Errno{api.OK, api.ErrSyntax, api.ErrShape, api.ErrFull} {
		if asks[e] < 100 || replies[e] < 100 {
			t.Errorf("%v came of %d Asks and %d Replies", e, asks[e], replies[e])
		}
	}
}

// Of each byte a name that is it, and names with it at their edges, in connections and as fields.
func TestCleanEachByte(t *testing.T) {
	for c := range 256 {
		for _, name := range []string{string([]byte{byte(c)}), string([]byte{byte(c), 'a'}), string([]byte{'a', byte(c)}), string([]byte{'a', byte(c), 'b'})} {
			l := list(name, "1", "b", "2", "connection", name, name, "3")
			isToken := strings.IndexByte("abcdefghijklmnopqrstuvwxyzABCDEFGHIJKLMNOPQRSTUVWXYZ0123456789-_", byte(c)) >= 0
			switch {
			case name == "b":
				checkClean(t, l, nil)
			case isToken:
				checkClean(t, l, list("b", "2"))
			default:
				checkClean(t, l, list(name, "1", "b", "2", name, "3"))
			}
		}
	}
}

// Lists that are made of any bytes: lines of a name, a tab and a value.
func FuzzAll(fuzz *testing.F) {
	fuzz.Add(":method\tGET\n:path\t/a\n:host\th\ncookie\ta\nx\t1\ncookie\tb\nlength\t3", "tea", 200)
	fuzz.Add(":code\t200\nlength\t3\nconnection\ta, b\na\t1", "tea", 304)
	fuzz.Add("a\t1\nconnection\ta,b, c\nc\t\ncookie\ta; b;  c; ", "", 99)
	fuzz.Fuzz(func(t *testing.T, s, body string, code int) {
		var l []api.Field
		for line := range strings.SplitSeq(s, "\n") {
			name, value, _ := strings.Cut(line, "\t")
			l = append(l, f(name, value))
		}
		against(t, l, []byte(body), [3]string{"GET", "/a", "h"}, code)
		against(t, nil, []byte(body), [3]string{body, s, s}, code)
	})
}
