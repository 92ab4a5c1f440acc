package line

import (
	"bytes"
	"slices"
	"strconv"
	"strings"
	"testing"

	"tollgate/api"
	"tollgate/plain"
)

func TestAsk(t *testing.T) {
	for _, c := range []struct {
		r    api.Request
		want string
	}{
		{get(), "GET / EDGE/1\r\nhost: h\r\n\r\n"},
		{get(api.Field{Name: "a", Value: "b"}), "GET / EDGE/1\r\nhost: h\r\na: b\r\n\r\n"},
		{get(api.Field{Name: "a", Value: ""}), "GET / EDGE/1\r\nhost: h\r\na: \r\n\r\n"},
		{get(api.Field{Name: "b-c", Value: "x, y; z"}, api.Field{Name: "x_1", Value: "1"}, api.Field{Name: "b-c", Value: "x, y; z"}),
			"GET / EDGE/1\r\nhost: h\r\nb-c: x, y; z\r\nx_1: 1\r\nb-c: x, y; z\r\n\r\n"},
		{api.Request{Method: "put_1", Path: "EDGE/1", Host: "host.x:80 b", Body: []byte("\r\n\r\n")},
			"put_1 EDGE/1 EDGE/1\r\nhost: host.x:80 b\r\nlength: 4\r\n\r\n\r\n\r\n"},
		{api.Request{Method: "P", Path: "*", Host: "a  b", Fields: []api.Field{{Name: "0", Value: ":"}}, Body: []byte{0}},
			"P * EDGE/1\r\nhost: a  b\r\n0: :\r\nlength: 1\r\n\r\n\x00"},
		{api.Request{Method: "P", Path: "/?:", Host: "host: h", Fields: []api.Field{{Name: "a", Value: "length: 3"}}, Body: []byte("0123456789")},
			"P /?: EDGE/1\r\nhost: host: h\r\na: length: 3\r\nlength: 10\r\n\r\n0123456789"},
	} {
		checkAsk(t, c.r, c.want)
		checkReadAsk(t, c.want, c.r, len(c.want))
	}
	r := get()
	r.Fields, r.Body = []api.Field{}, []byte{}
	checkAsk(t, r, "GET / EDGE/1\r\nhost: h\r\n\r\n")
}

func TestAskBodies(t *testing.T) {
	for _, n := range []int{1, 9, 10, 99, 100, 999, 1000, api.MaxBody - 1, api.MaxBody} {
		r := get()
		r.Body = some(n)
		want := "GET / EDGE/1\r\nhost: h\r\nlength: " + strconv.Itoa(n) + "\r\n\r\n" + string(some(n))
		checkAsk(t, r, want)
		checkReadAsk(t, want, r, len(want))
	}
	for _, n := range []int{api.MaxBody + 1, api.MaxBody + 2, 1 << 16, 1 << 20} {
		r := get()
		r.Body = make([]byte, n)
		refuseAsk(t, r, api.ErrFull)
	}
}

func TestAskManyFields(t *testing.T) {
	for _, n := range []int{0, 1, 2, api.MaxFields - 1, api.MaxFields} {
		r := get(list(n)...)
		want := "GET / EDGE/1\r\nhost: h\r\n" + lines(list(n)) + "\r\n"
		checkAsk(t, r, want)
		checkReadAsk(t, want, r, len(want))
		r.Body = []byte("ab")
		want = "GET / EDGE/1\r\nhost: h\r\n" + lines(list(n)) + "length: 2\r\n\r\nab"
		checkAsk(t, r, want)
		checkReadAsk(t, want, r, len(want))
	}
	for _, n := range []int{api.MaxFields + 1, api.MaxFields + 2, 1000} {
		refuseAsk(t, get(list(n)...), api.ErrFull)
	}
}

// The longest texts that may be.
func TestAskLongest(t *testing.T) {
	r := api.Request{Method: xs(most), Path: xs(most), Host: xs(most), Body: some(api.MaxBody)}
	for range api.MaxFields {
		r.Fields = append(r.Fields, api.Field{Name: xs(most), Value: xs(most)})
	}
	want := xs(most) + " " + xs(most) + " EDGE/1\r\nhost: " + xs(most) + "\r\n" + lines(r.Fields) + "length: 8000\r\n\r\n" + string(r.Body)
	checkAsk(t, r, want)
	checkReadAsk(t, want, r, len(want))
	checkReadAsk(t, want+want, r, len(want))
}

// askEach writes and reads requests in which one text has each byte in each place.
func askEach(t *testing.T, may func(c int) bool, with func(r *api.Request, s string)) {
	t.Helper()
	eachByte(may, func(s string, ok bool) {
		r := get(api.Field{Name: "a", Value: "b"})
		with(&r, s)
		if !ok {
			refuseAsk(t, r, api.ErrSyntax)
			return
		}
		want := r.Method + " " + r.Path + " EDGE/1\r\nhost: " + r.Host + "\r\n" + lines(r.Fields) + "\r\n"
		checkAsk(t, r, want)
		checkReadAsk(t, want, r, len(want))
	})
}

func TestAskEachByte(t *testing.T) {
	askEach(t, within(tokenBytes), func(r *api.Request, s string) { r.Method = s })
	askEach(t, pathByte, func(r *api.Request, s string) { r.Path = s })
	askEach(t, plainByte, func(r *api.Request, s string) { r.Host = s })
	askEach(t, within(nameBytes), func(r *api.Request, s string) { r.Fields[0].Name = s })
	askEach(t, plainByte, func(r *api.Request, s string) { r.Fields[0].Value = s })
}

func TestAskWrongTexts(t *testing.T) {
	for _, s := range []string{"", " ", "a b", " a", "a ", xs(most + 1), "a\r\nb", "ä", "\x7f"} {
		r := get()
		r.Method = s
		refuseAsk(t, r, api.ErrSyntax)
		r = get()
		r.Path = s
		refuseAsk(t, r, api.ErrSyntax)
		refuseAsk(t, get(api.Field{Name: s, Value: "b"}), api.ErrSyntax)
	}
	for _, s := range []string{"", " ", " a", "a ", xs(most + 1), "a\r\nb", "ä", "\x7f", xs(most-1) + " "} {
		r := get()
		r.Host = s
		refuseAsk(t, r, api.ErrSyntax)
		if s != "" {
			refuseAsk(t, get(api.Field{Name: "a", Value: s}), api.ErrSyntax)
		}
	}
	for _, s := range []string{"A", "aB", "Host", "LENGTH", "codinG", ":code", "a:"} {
		refuseAsk(t, get(api.Field{Name: s, Value: "b"}), api.ErrSyntax)
	}
}

func TestAskTakenNames(t *testing.T) {
	for _, s := range []string{"host", "length", "coding"} {
		refuseAsk(t, get(api.Field{Name: s, Value: "b"}), api.ErrShape)
		refuseAsk(t, get(api.Field{Name: s, Value: ""}), api.ErrShape)
		refuseAsk(t, get(append(list(39), api.Field{Name: s, Value: "1"})...), api.ErrShape)
	}
	for _, s := range []string{"hos", "hosts", "lengt", "length-", "codin", "coding2", "-host", "chunked", "connection"} {
		r := get(api.Field{Name: s, Value: "b"})
		want := "GET / EDGE/1\r\nhost: h\r\n" + s + ": b\r\n\r\n"
		checkAsk(t, r, want)
		checkReadAsk(t, want, r, len(want))
	}
}

func TestAskWhichError(t *testing.T) {
	good, bad, taken := api.Field{Name: "a", Value: "b"}, api.Field{Name: "A", Value: "b"}, api.Field{Name: "host", Value: "b"}
	worst, empty := api.Field{Name: "host", Value: " "}, api.Field{Name: "", Value: ""}
	for _, c := range []struct {
		l    []api.Field
		want api.Errno
	}{
		{[]api.Field{good, bad, taken}, api.ErrSyntax},
		{[]api.Field{good, taken, bad}, api.ErrShape},
		{[]api.Field{taken, worst}, api.ErrShape},
		{[]api.Field{worst, taken}, api.ErrSyntax},
		{[]api.Field{worst}, api.ErrSyntax},
		{[]api.Field{good, empty}, api.ErrSyntax},
		{slices.Repeat([]api.Field{taken}, 40), api.ErrShape},
		{slices.Repeat([]api.Field{taken}, 41), api.ErrFull},
		{slices.Repeat([]api.Field{bad}, 41), api.ErrFull},
	} {
		refuseAsk(t, get(c.l...), c.want)
		refuseTell(t, api.Reply{Code: 200, Fields: c.l}, 0, c.want)
		refuseTell(t, api.Reply{Code: 200, Fields: c.l}, 5, c.want)
	}
	for _, r := range []api.Request{{Path: "/", Host: "h"}, {Method: "GET", Host: "h"}, {Method: "GET", Path: "/"}, {}} {
		refuseAsk(t, r, api.ErrSyntax)
		r.Fields = []api.Field{taken}
		refuseAsk(t, r, api.ErrSyntax)
		r.Fields = list(41)
		refuseAsk(t, r, api.ErrFull)
		r.Fields, r.Body = []api.Field{bad, taken}, some(8001)
		refuseAsk(t, r, api.ErrFull)
	}
}

const asked = "PUT /x?y EDGE/1\r\nhost: h.x 80\r\na: b c\r\nx_1: \r\nlength: 12\r\n\r\n0123\r\n\r\n89\r\n"

func askedRequest() api.Request {
	return api.Request{Method: "PUT", Path: "/x?y", Host: "h.x 80", Fields: []api.Field{{Name: "a", Value: "b c"}, {Name: "x_1", Value: ""}}, Body: []byte("0123\r\n\r\n89\r\n")}
}

func TestReadAskBehind(t *testing.T) {
	for _, behind := range []string{"", "x", "\r\n", "\x00", asked, string(some(30000))} {
		checkReadAsk(t, asked+behind, askedRequest(), len(asked))
		checkReadAsk(t, "GET / EDGE/1\r\nhost: h\r\n\r\n"+behind, get(), 25)
	}
}

func TestReadAskOneByOne(t *testing.T) {
	var all []byte
	for n := range 60 {
		r := get(list(n % 41)...)
		r.Body = some(n * n)
		b, err := Ask(r)
		if err != nil {
			t.Fatal(err)
		}
		all = append(all, b...)
	}
	for n := range 60 {
		r := get(list(n % 41)...)
		r.Body = some(n * n)
		q, used, err := ReadAsk(all)
		if err != nil || !sameAsk(q, r) {
			t.Fatalf("ReadAsk of request %d: got %d %v", n, used, err)
		}
		all = all[used:]
	}
	if len(all) != 0 {
		t.Errorf("%d bytes are left", len(all))
	}
}

func TestReadAskShort(t *testing.T) {
	r := get(list(api.MaxFields)...)
	r.Body = some(200)
	full, err := Ask(r)
	if err != nil {
		t.Fatal(err)
	}
	for _, s := range []string{asked, "GET / EDGE/1\r\nhost: h\r\n\r\n", string(full)} {
		for n := range len(s) {
			refuseReadAsk(t, s[:n], api.ErrShort)
		}
	}
	if q, n, err := ReadAsk(nil); n != 0 || !sameAsk(q, api.Request{}) || plain.Told(err) != api.ErrShort {
		t.Errorf("ReadAsk of nil: got %q %d %v, want ErrShort", q, n, err)
	}
}

// step is what may come behind bytes that are right so far.
type step struct {
	ahead string
	may   func(c int) bool
}

func or(a, b func(c int) bool) func(c int) bool {
	return func(c int) bool { return a(c) || b(c) }
}

// literal is a step for each byte of what has to stand just so.
func literal(ahead, s string) (l []step) {
	for i := range len(s) {
		l = append(l, step{ahead + s[:i], within(s[i : i+1])})
	}
	return l
}

// fieldSteps behind a line, where the lines of last may be.
func fieldSteps(ahead string, last ...string) []step {
	name, plain, blankless, end := within(nameBytes), plainByte, pathByte, within("\r")
	l := []step{
		{ahead, or(name, end)},
		{ahead + "a", or(name, within(":"))},
		{ahead + xs(most-1), or(name, within(":"))},
		{ahead + xs(most), within(":")},
		{ahead + "a:", within(" ")},
		{ahead + "a: ", or(blankless, end)},
		{ahead + "a: b", or(plain, end)},
		{ahead + "a: b ", plain},
		{ahead + "a: " + xs(most-2), or(plain, end)},
		{ahead + "a: " + xs(most-1), or(blankless, end)},
		{ahead + "a: " + xs(most-2) + " ", blankless},
		{ahead + "a: " + xs(most), end},
		{ahead + "a: b\r", within("\n")},
		{ahead + "a: b\r\n", or(name, end)},
	}
	for _, s := range []string{"host", "length", "coding"} {
		if slices.Contains(last, s) {
			l = append(l, step{ahead + s, or(name, within(":"))}, step{ahead + s + ":", within(" ")})
		} else {
			l = append(l, step{ahead + s, name})
		}
		l = append(l, step{ahead + s[:3], or(name, within(":"))}, step{ahead + s + "s", or(name, within(":"))})
	}
	return l
}

// lengthSteps behind a line; then the empty line.
func lengthSteps(ahead, first string) []step {
	digits, end := within("0123456789"), within("\r")
	l := []step{
		{ahead + "length: ", within(first)},
		{ahead + "length: 1", or(digits, end)},
		{ahead + "length: 12", or(digits, end)},
		{ahead + "length: 799", or(digits, end)},
	}
	return append(l, literal(ahead+"length: 12", "\r\n\r\n")[1:]...)
}

// askSteps are all of a request's.
func askSteps() []step {
	token, path := within(tokenBytes), pathByte
	l := []step{
		{"", token},
		{"P", or(token, within(" "))},
		{xs(most - 1), or(token, within(" "))},
		{xs(most), within(" ")},
		{"P ", path},
		{"P /", or(path, within(" "))},
		{"P " + xs(most-1), or(path, within(" "))},
		{"P " + xs(most), within(" ")},
	}
	l = append(l, literal("P / ", "EDGE/1\r\nhost: ")...)
	const host = "P / EDGE/1\r\nhost: "
	l = append(l, []step{
		{host, path},
		{host + "h", or(plainByte, within("\r"))},
		{host + "h ", plainByte},
		{host + xs(most-2), or(plainByte, within("\r"))},
		{host + xs(most-1), or(path, within("\r"))},
		{host + xs(most-2) + " ", path},
		{host + xs(most), within("\r")},
		{host + "h\r", within("\n")},
	}...)
	l = append(l, fieldSteps(host+"h\r\n", "length")...)
	l = append(l, lengthSteps(host+"h\r\n", "123456789")...)
	return append(l, lengthSteps(host+"h\r\na: b\r\n", "123456789")...)
}

// Each of the 256 bytes behind each kind of bytes that are right so far.
func TestReadAskEachByte(t *testing.T) {
	for _, p := range askSteps() {
		refuseReadAsk(t, p.ahead, api.ErrShort)
		for c := range 256 {
			if p.may(c) {
				refuseReadAsk(t, p.ahead+one(c), api.ErrShort)
				continue
			}
			refuseReadAsk(t, p.ahead+one(c), api.ErrSyntax)
			refuseReadAsk(t, p.ahead+one(c)+asked, api.ErrSyntax)
			refuseReadAsk(t, p.ahead+one(c)+string(some(api.MaxInput)), api.ErrSyntax)
		}
	}
	// The last byte of a request without a body.
	for c := range 256 {
		if c != '\n' {
			refuseReadAsk(t, "P / EDGE/1\r\nhost: h\r\n\r"+one(c), api.ErrSyntax)
			refuseReadAsk(t, "P / EDGE/1\r\nhost: h\r\na: b\r\n\r"+one(c), api.ErrSyntax)
		}
	}
}

func TestReadAskWrongForms(t *testing.T) {
	const host = "GET / EDGE/1\r\nhost: h\r\n"
	for _, s := range []string{
		"GET  / EDGE/1\r\nhost: h\r\n\r\n", " GET / EDGE/1\r\n", "GET /\r\n", "GET / EDGE/1 \r\n", "GET / EDGE/2\r\n", "GET / edge/1\r\n", "GET / EDGE/1\n", "GET / EDGE/1\r\n\r\n", "\r\nGET",
		"GET / EDGE/1\r\na: b\r\nhost: h\r\n\r\n", "GET / EDGE/1\r\nHost: h\r\n\r\n", "GET / EDGE/1\r\nhost:h\r\n", "GET / EDGE/1\r\nhost: \r\n", "GET / EDGE/1\r\nhost: h \r\n",
		host + "a:b\r\n", host + "a : b\r\n", host + "a:  b\r\n", host + "a: b \r\n", host + "a: \r\n b\r\n", host + ": b\r\n", host + "a\r\n", host + "A: b\r\n", host + "a: b\n", host + "\n", host + " \r\n",
		host + "host: h\r\n", host + "host:", host + "coding: chunked\r\n", host + "coding:", host + "a: b\r\nhost: h\r\n\r\n",
		host + "length: 0", host + "length: 0\r\n\r\n", host + "length: 01\r\n\r\nx", host + "length: \r\n\r\n", host + "length: -1\r\n", host + "length: +1\r\n", host + "length: 1 \r\n", host + "length:  1\r\n", host + "length: a\r\n", host + "length: 1a\r\n",
		host + "length: 1\r\na", host + "length: 1\r\na: b\r\n\r\nx", host + "length: 1\r\nlength: 1\r\n\r\nx", host + "length: 1\r\nl", host + "a: b\r\nlength: 2\r\nc: d\r\n\r\nxy",
		host + "length: 0800000", host + "length: 00000000000000000000000",
	} {
		refuseReadAsk(t, s, api.ErrSyntax)
	}
}

func TestReadAskTooManyFields(t *testing.T) {
	full := "GET / EDGE/1\r\nhost: h\r\n" + lines(list(api.MaxFields))
	for _, c := range []struct {
		s    string
		want api.Errno
	}{
		{"", api.ErrShort}, {"a", api.ErrShort}, {"length", api.ErrShort}, {"lengths", api.ErrShort}, {"host", api.ErrShort}, {xs(most), api.ErrShort},
		{"a:", api.ErrFull}, {"a: ", api.ErrFull}, {"a: b\r\n\r\n", api.ErrFull}, {"a:b", api.ErrFull}, {"lengths:", api.ErrFull}, {xs(most) + ":", api.ErrFull}, {"a:\x00", api.ErrFull}, {"a: \x00", api.ErrFull},
		{"A:", api.ErrSyntax}, {"aA:", api.ErrSyntax}, {":", api.ErrSyntax}, {"a b:", api.ErrSyntax}, {"a\r\n", api.ErrSyntax}, {xs(most + 1), api.ErrSyntax}, {xs(most+1) + ":", api.ErrSyntax},
		{"host:", api.ErrSyntax}, {"coding:", api.ErrSyntax}, // both are of one byte: ErrSyntax is named first
		{"length:", api.ErrShort}, {"length: 8001", api.ErrFull}, {"length: 0", api.ErrSyntax}, {"length: 1\r\na:", api.ErrSyntax},
	} {
		refuseReadAsk(t, full+c.s, c.want)
		if c.want != api.ErrShort {
			refuseReadAsk(t, full+c.s+string(some(api.MaxInput)), c.want)
		}
	}
	refuseReadAsk(t, "GET / EDGE/1\r\nhost: h\r\n"+lines(list(1000))+"\r\n", api.ErrFull)
	refuseReadAsk(t, "GET / EDGE/1\r\nhost: h\r\n"+lines(list(41))+"A\r\n", api.ErrFull)
	refuseReadAsk(t, "GET / EDGE/1\r\nhost: h\r\n"+lines(list(39))+"B: c\r\n"+lines(list(9)), api.ErrSyntax)
}

// lengths that are too great, and where that is seen.
func tooLong() []string {
	return []string{"8001", "8002", "8009", "8010", "9000", "9999", "10000", "80000", "79990", "2147483648", "4294967297", "9223372036854775807", "9223372036854775808", "18446744073709551615", "18446744073709551616", "18446744073709551617", "1" + strings.Repeat("0", 1<<20), strings.Repeat("9", 1<<20)}
}

func TestReadAskLength(t *testing.T) {
	const host = "GET / EDGE/1\r\nhost: h\r\n"
	for _, s := range []string{"1", "8", "80", "800", "8000", "7999", "9", "99", "999"} {
		refuseReadAsk(t, host+"length: "+s, api.ErrShort)
		n, _ := strconv.Atoi(s)
		r := get()
		r.Body = some(n)
		whole := host + "length: " + s + "\r\n\r\n" + string(r.Body)
		checkReadAsk(t, whole+"x", r, len(whole))
		refuseReadAsk(t, whole[:len(whole)-1], api.ErrShort)
	}
	for _, s := range tooLong() {
		for _, behind := range []string{"", "\r", "\r\n\r\n", "x", " ", "\n", "\r\n\r\n" + string(some(9000)), string(some(api.MaxInput))} {
			refuseReadAsk(t, host+"length: "+s+behind, api.ErrFull)
			refuseReadAsk(t, host+"a: b\r\nlength: "+s+behind, api.ErrFull)
		}
	}
	for _, s := range []string{"800x1", "80 01", "x8001", "08001", "-8001", "800\r8001"} {
		refuseReadAsk(t, host+"length: "+s, api.ErrSyntax)
	}
}

// wide is a head of n bytes, that goes on with fields behind what is ahead.
func wide(ahead string, n int) string {
	const least, all = 5, 2*most + 4
	s := ahead
	for left := n - len(s); left > 0; left = n - len(s) {
		size := min(left, all)
		if rest := left - size; rest > 0 && rest < least {
			size -= least
		}
		name := min(size-4, most)
		s += xs(name) + ": " + xs(size-4-name) + "\r\n"
	}
	return s
}

func TestReadAskInput(t *testing.T) {
	const host = "GET / EDGE/1\r\nhost: h\r\n"
	for _, n := range []int{api.MaxInput - 1, api.MaxInput, api.MaxInput + 1, api.MaxInput + 2, 30000} {
		s, want := wide(host, n), api.ErrShort
		if len(s) != n {
			t.Fatalf("the head has %d bytes, not %d", len(s), n)
		}
		if n > api.MaxInput {
			want = api.ErrFull
		}
		refuseReadAsk(t, s, want)
		// In a body, in a name, in a value, in a line end.
		refuseReadAsk(t, wide(host, n-1016)+"length: 8000\r\n\r\n"+string(some(1000)), want)
		refuseReadAsk(t, wide(host, n-10)+"abcdefghij", want)
		refuseReadAsk(t, wide(host, n-10)+"a: 4567890", want)
		refuseReadAsk(t, wide(host, n-10)+"a: 456789\r", want)
		refuseReadAsk(t, wide(host, n-1)+"\r", want)
		refuseReadAsk(t, wide(host, n-1)+"\n", api.ErrSyntax)
		refuseReadAsk(t, wide(host, n-3)+"aA:", api.ErrSyntax)
		// What is whole may have more bytes.
		q, used, err := ReadAsk([]byte(s + "\r\n"))
		if err != nil || used != n+2 || host+lines(q.Fields) != s {
			t.Errorf("ReadAsk of %d bytes: got %d %v", n+2, used, err)
		}
		whole := wide(host, n) + "length: 8000\r\n\r\n" + string(some(8000))
		if q, used, err := ReadAsk([]byte(whole + "more")); err != nil || used != len(whole) || !bytes.Equal(q.Body, some(8000)) {
			t.Errorf("ReadAsk of %d bytes: got %d %v", len(whole), used, err)
		}
		refuseReadAsk(t, whole[:len(whole)-1], api.ErrFull)
	}
}

func TestAskLeavesTheRequest(t *testing.T) {
	for _, wrong := range []string{"GET", " "} {
		fields, body := list(10), some(100)
		r := get(fields[:5]...)
		r.Method, r.Body = wrong, body[:50]
		b, err := Ask(r)
		fill(b, 'x')
		if (err == nil) != (wrong == "GET") || !slices.Equal(fields, list(10)) || !bytes.Equal(body, some(100)) {
			t.Errorf("Ask with Method %q has written into what it was handed, or %v", wrong, err)
		}
	}
}

func TestAskIsNewMemory(t *testing.T) {
	for _, n := range []int{0, 1, 1000} {
		r := get(list(3)...)
		r.Body = some(n)
		a, _ := Ask(r)
		b, _ := Ask(r)
		want := bytes.Clone(b)
		fill(a, 'x')
		fill(r.Body, 'x')
		fill(r.Fields, api.Field{})
		if !bytes.Equal(b, want) || len(want) < n {
			t.Errorf("Ask with %d bytes: what came out is not its own", n)
		}
	}
}

func TestReadAskIsNewMemory(t *testing.T) {
	b := []byte(asked + "behind")
	first, _, _ := ReadAsk(b[:len(asked)])
	second, _, _ := ReadAsk(b[:len(asked)])
	fill(first.Fields, api.Field{})
	fill(first.Body, 'x')
	if string(b) != asked+"behind" {
		t.Error("ReadAsk has written into what it was handed, or gave it out")
	}
	fill(b, 'x')
	if !sameAsk(second, askedRequest()) {
		t.Error("ReadAsk: what came out is not its own")
	}
}

// What lies behind a list's length is not read, though it would go on rightly.
func TestReadAskReadsNoneBehindTheLength(t *testing.T) {
	b := []byte(asked)
	for n := range b {
		if q, used, err := ReadAsk(b[:n]); used != 0 || !sameAsk(q, api.Request{}) || plain.Told(err) != api.ErrShort {
			t.Errorf("ReadAsk of the first %d bytes: got %q %d %v, want ErrShort", n, q, used, err)
		}
	}
}
