package line

import (
	"bytes"
	"fmt"
	"regexp"
	"sort"
	"strconv"
	"strings"
	"testing"

	"tollgate/api"
	"tollgate/chunk"
	"tollgate/plain"
)

// The model does not read from left to right. A head is one that Ask or Tell writes of what stands
// in it; bytes may be the beginning of a head, if the end of one that is right makes one of them.
// It knows nothing of more than MaxFields fields.

// head is what stands ahead of the body.
type head struct {
	first  []string // words of the first line
	host   string
	fields []api.Field
	last   string // length, coding, or none
	size   int
	used   int
}

func cutHead(s string, asks bool) (h head, ok bool) {
	text, _, ok := strings.Cut(s, "\r\n\r\n")
	if !ok {
		return head{}, false
	}
	h.used = len(text) + 4
	l := strings.Split(text, "\r\n")
	h.first = strings.Split(l[0], " ")
	l = l[1:]
	if asks {
		if len(l) == 0 {
			return head{}, false
		}
		_, h.host, _ = strings.Cut(l[0], ": ")
		l = l[1:]
	}
	for _, line := range l {
		name, value, _ := strings.Cut(line, ": ")
		h.fields = append(h.fields, api.Field{Name: name, Value: value})
	}
	h.cutLast()
	return h, true
}

func (h *head) cutLast() {
	n := len(h.fields) - 1
	if n < 0 || h.fields[n].Name != "length" && h.fields[n].Name != "coding" {
		return
	}
	h.last = h.fields[n].Name
	h.size, _ = strconv.Atoi(h.fields[n].Value)
	h.size = min(max(h.size, 0), api.MaxBody)
	h.fields = h.fields[:n]
}

func askHead(s string) (h head, ok bool) {
	h, ok = cutHead(s, true)
	if !ok || len(h.first) != 3 {
		return head{}, false
	}
	b, err := Ask(api.Request{Method: h.first[0], Path: h.first[1], Host: h.host, Fields: h.fields, Body: make([]byte, h.size)})
	return h, err == nil && string(b[:len(b)-h.size]) == s[:h.used]
}

func tellHead(s string) (h head, ok bool) {
	h, ok = cutHead(s, false)
	if !ok || len(h.first) != 2 {
		return head{}, false
	}
	code, _ := strconv.Atoi(h.first[1])
	r, size := api.Reply{Code: code, Fields: h.fields, Body: make([]byte, h.size)}, 0
	if h.last == "coding" {
		r.Body, size = nil, 1
	}
	b, err := Tell(r, size)
	if err != nil {
		return head{}, false
	}
	want, _, _ := strings.Cut(string(b), "\r\n\r\n")
	if h.last == "" {
		want = strings.TrimSuffix(want, "\r\nlength: 0")
	}
	return h, want+"\r\n\r\n" == s[:h.used]
}

// mayBegin tells whether s has no whole head, and an end makes it one.
func mayBegin(s string, is func(s string) (head, bool), ends ...string) bool {
	for _, end := range ends {
		for i := range len(end) {
			if h, ok := is(s + end[i:]); ok && h.used > len(s) {
				return true
			}
		}
	}
	return false
}

var aboveMost = regexp.MustCompile(`\nlength: [1-9][0-9]*$`)

// headFault of what has no whole head.
func headFault(s string, is func(s string) (head, bool), ends ...string) api.Errno {
	at := sort.Search(len(s), func(n int) bool { return !mayBegin(s[:n+1], is, ends...) })
	switch {
	case at == len(s):
		return api.ErrShort
	case aboveMost.MatchString(s[:at]) && s[at] >= '0' && s[at] <= '9':
		return api.ErrFull
	}
	return api.ErrSyntax
}

type heardAsk struct {
	q    api.Request
	used int
	told api.Errno
}

func hearAsk(s string) (m heardAsk) {
	h, ok := askHead(s)
	switch {
	case !ok:
		m.told = headFault(s, askHead, "G / EDGE/1\r\nhost: h\r\na: b\r\nlength: 1\r\n\r\n", "1\r\n\r\n", "h\r\n\r\n")
	case len(s)-h.used < h.size:
		m.told = api.ErrShort
	default:
		m.used = h.used + h.size
		m.q = api.Request{Method: h.first[0], Path: h.first[1], Host: h.host, Fields: h.fields, Body: []byte(s[h.used:m.used])}
	}
	if m.told == api.ErrShort && len(s) > 20000 {
		m.told = api.ErrFull
	}
	return m
}

type heardTell struct {
	a    api.Reply
	used int
	told api.Errno
}

func hearTell(s string, w how) (m heardTell) {
	h, ok := tellHead(s)
	if !ok {
		m.told = headFault(s, tellHead, "EDGE/1 200\r\na: b\r\nlength: 1\r\n\r\n", "00\r\n\r\n", "0\r\n\r\n", "coding: chunked\r\n\r\n")
	} else {
		m.a.Code, _ = strconv.Atoi(h.first[1])
		m.a.Fields = h.fields
		m.hearBody(s, h, w)
	}
	if m.told == api.ErrShort && len(s) > 20000 {
		m.told = api.ErrFull
	}
	if m.told != api.OK {
		return heardTell{told: m.told}
	}
	return m
}

func (m *heardTell) hearBody(s string, h head, w how) {
	m.used = h.used
	code := m.a.Code
	switch {
	case w.bare || code < 200 || code == 204 || code == 304:
	case h.last == "coding":
		body, n, err := chunk.Decode([]byte(s[h.used:]))
		m.a.Body, m.told = body, plain.Told(err)
		m.used += n
	case h.last == "" && !w.closed || len(s)-h.used < h.size:
		m.told = api.ErrShort
	case h.last == "":
		m.a.Body, m.used = []byte(s[h.used:]), len(s)
	default:
		m.used += h.size
		m.a.Body = []byte(s[h.used:m.used])
	}
}

func holdAsk(t *testing.T, s string) api.Errno {
	t.Helper()
	m := hearAsk(s)
	if q, n, err := ReadAsk([]byte(s)); plain.Told(err) != m.told || n != m.used || !sameAsk(q, m.q) {
		t.Errorf("ReadAsk of %q: got %q %d %v, want %q %d %v", s, q, n, err, m.q, m.used, m.told)
	}
	return m.told
}

func holdTell(t *testing.T, s string, w how) api.Errno {
	t.Helper()
	m := hearTell(s, w)
	if a, n, err := ReadTell([]byte(s), w.bare, w.closed); plain.Told(err) != m.told || n != m.used || !sameTell(a, m.a) {
		t.Errorf("ReadTell of %q %+v: got %v %d %v, want %v %d %v", s, w, a, n, err, m.a, m.used, m.told)
	}
	return m.told
}

// dice that fall alike each time.
type dice uint64

func (d *dice) roll(n int) int {
	*d = *d*6364136223846793005 + 1442695040888963407
	return int(*d>>33) % n
}

func (d *dice) word(of ...string) string { return of[d.roll(len(of))] }

func (d *dice) fields() (l []api.Field) {
	for range d.roll(4) {
		l = append(l, api.Field{Name: d.word("a", "b-c", "x_1", "hos", "lengt", "codings", "0"), Value: d.word("", "b", "a b", "x: y", "length: 3", "~")})
	}
	return l
}

// change something of a message.
func (d *dice) change(s string) string {
	if s == "" {
		return s
	}
	at, c := d.roll(len(s)), d.word("\r", "\n", "\r\n", " ", ":", "0", "1", "9", "x", "A", "\x00", "\x7f", "host: x\r\n", "length: 3\r\n", "coding: chunked\r\n", "a: b\r\n", "\r\n\r\n")
	switch d.roll(7) {
	case 0:
		return s[:at] + c + s[at+1:]
	case 1:
		return s[:at] + s[at+1:]
	case 2:
		return s[:at] + c + s[at:]
	case 3:
		return s[:at+1]
	case 4:
		return s + c
	case 5:
		return strings.Replace(s, "length: ", "length: 9"+d.word("", "0", "99"), 1)
	}
	return s
}

func needAll(t *testing.T, told map[api.Errno]int) {
	t.Helper()
	for _, e := range []api.Errno{api.OK, api.ErrSyntax, api.ErrFull, api.ErrShort} {
		if told[e] == 0 {
			t.Errorf("none came to %v", e)
		}
	}
}

func TestReadAskMany(t *testing.T) {
	d := dice(10)
	told := map[api.Errno]int{}
	for range 6000 {
		r := api.Request{Method: d.word("GET", "P", "x_1"), Path: d.word("/", "*", "/a?b", "EDGE/1"), Host: d.word("h", "a b", "host: x"), Fields: d.fields(), Body: some(d.roll(3) * d.roll(500))}
		b, err := Ask(r)
		if err != nil {
			t.Fatal(err)
		}
		checkReadAsk(t, string(b), r, len(b))
		told[holdAsk(t, d.change(d.change(string(b))))]++
		if t.Failed() {
			t.FailNow()
		}
	}
	needAll(t, told)
}

func TestReadTellMany(t *testing.T) {
	d := dice(11)
	told := map[api.Errno]int{}
	for range 6000 {
		r := api.Reply{Code: []int{200, 200, 404, 599, 100, 204, 304}[d.roll(7)], Fields: d.fields(), Body: some(d.roll(3) * d.roll(500))}
		b, err := Tell(r, d.roll(2)*(1+d.roll(300)))
		if err != nil {
			t.Fatal(err)
		}
		s := string(b)
		if d.roll(4) == 0 {
			s = fmt.Sprintf("EDGE/1 %d\r\n%s\r\n%s", r.Code, lines(r.Fields), r.Body)
		}
		w := how{d.roll(4) == 0, d.roll(2) == 0}
		holdTell(t, s, w)
		told[holdTell(t, d.change(d.change(s)), w)]++
		if t.Failed() {
			t.FailNow()
		}
	}
	needAll(t, told)
}

// All short texts of some bytes behind what is right so far.
func TestReadAllShortOnes(t *testing.T) {
	var grow func(s string, left int, of string, hold func(s string))
	grow = func(s string, left int, of string, hold func(s string)) {
		hold(s)
		for i := 0; i < len(of) && left > 0 && !t.Failed(); i++ {
			grow(s+of[i:i+1], left-1, of, hold)
		}
	}
	ask := func(s string) { holdAsk(t, s) }
	tell := func(s string) { holdTell(t, s, how{false, true}) }
	grow("", 4, "G /E\r", ask)
	grow("G / EDGE/1\r\nhost: ", 4, "h \r\n:", ask)
	grow("G / EDGE/1\r\nhost: h\r\n", 4, "a: \r\n", ask)
	grow("G / EDGE/1\r\nhost: h\r\nlength: ", 5, "018\r\n", ask)
	grow("", 2, "EDG/1 ", tell)
	grow("EDGE/1 ", 4, "0156\r\n", tell)
	grow("EDGE/1 200\r\n", 4, "a: \r\n", tell)
	grow("EDGE/1 200\r\nlength: ", 5, "018\r\n", tell)
	grow("EDGE/1 200\r\ncoding: chunked\r\n\r\n", 5, "01\r\n", tell)
}

func FuzzReadAsk(f *testing.F) {
	for _, s := range []string{"", asked, "GET / EDGE/1\r\nhost: h\r\n\r\nx", "G / EDGE/1\r\nhost: h\r\nlength: 8001"} {
		f.Add(s)
	}
	f.Fuzz(func(t *testing.T, s string) {
		if strings.Count(s, "\n") < api.MaxFields && len(s) < 2000 {
			holdAsk(t, s)
		}
	})
}

func FuzzReadTell(f *testing.F) {
	for _, s := range []string{"", toldLength, toldPieces, toldHead + "\r\nabc", "EDGE/1 204\r\nlength: 3\r\n\r\n"} {
		f.Add(s, false, true)
	}
	f.Fuzz(func(t *testing.T, s string, bare, closed bool) {
		if strings.Count(s, "\n") < api.MaxFields && len(s) < 2000 {
			holdTell(t, s, how{bare, closed})
		}
	})
}

// What is told is read, and told again, as it was.
func FuzzTell(f *testing.F) {
	f.Add(200, "a", "b", []byte("abc"), 2)
	f.Fuzz(func(t *testing.T, code int, name, value string, body []byte, size int) {
		r := api.Reply{Code: code, Fields: []api.Field{{Name: name, Value: value}}, Body: body}
		b, err := Tell(r, size)
		if err != nil {
			return
		}
		a, _, err := ReadTell(b, false, false)
		if err != nil || a.Code != code || a.Fields[0] != r.Fields[0] || len(a.Body) > 0 && !bytes.Equal(a.Body, body) {
			t.Errorf("ReadTell of %q: got %v %v", b, a, err)
		}
	})
}
