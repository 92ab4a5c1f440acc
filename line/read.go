package line

import (
	"bytes"
	"errors"

	"tollgate/api"
	"tollgate/chunk"
)

// ReadAsk reads a request.
func ReadAsk(b []byte) (q api.Request, used int, err error) {
	r := &reader{b: b}
	q.Method = r.text(tokenForm(), blank)
	q.Path = r.text(pathForm(), blank)
	r.word(version + lineEnd + hostName + ": ")
	q.Host = r.value(1)
	size := 0
	q.Fields = r.fields(func(name string) bool {
		if name != lengthName {
			return false
		}
		size = r.length(1)
		return true
	})
	q.Body = r.body(size)
	if err := r.fault(); err != nil {
		return api.Request{}, 0, err
	}
	return q, r.at, nil
}

// ReadTell reads a reply.
func ReadTell(b []byte, bare, closed bool) (a api.Reply, used int, err error) {
	r := &reader{b: b}
	r.word(version + " ")
	a.Code = r.code()
	body := func() []byte { return r.rest(closed) }
	a.Fields = r.fields(func(name string) bool {
		switch name {
		case lengthName:
			size := r.length(0)
			body = func() []byte { return r.body(size) }
		case codingName:
			r.word(" " + inPieces + lineEnd)
			body = r.pieces
		default:
			return false
		}
		return true
	})
	if !bare && HasBody(a.Code) {
		a.Body = body()
	}
	if err := r.fault(); err != nil {
		return api.Reply{}, 0, err
	}
	return a, r.at, nil
}

// HasBody tells whether a reply of a code may have one.
func HasBody(code int) bool {
	return code >= 200 && code != 204 && code != 304
}

// reader of bytes from left to right, up to the first one that is wrong: behind it nothing is read.
type reader struct {
	b   []byte
	at  int
	err error
}

// fail tells a fault, if there is none ahead of it.
func (r *reader) fail(err error) {
	if r.err == nil {
		r.err = err
	}
}

// fault of all that was read.
func (r *reader) fault() error {
	if errors.Is(r.err, api.ErrShort) && len(r.b) > api.MaxInput {
		return api.ErrFull
	}
	return r.err
}

// sees tells whether c comes next.
func (r *reader) sees(c byte) bool {
	return r.at < len(r.b) && r.b[r.at] == c
}

// next byte, if it may be; else 0.
func (r *reader) next(may func(c byte) bool) byte {
	switch {
	case r.err != nil:
		return 0
	case r.at == len(r.b):
		r.err = api.ErrShort
		return 0
	case !may(r.b[r.at]):
		r.err = api.ErrSyntax
		return 0
	}
	r.at++
	return r.b[r.at-1]
}

// word reads what has to stand just so.
func (r *reader) word(s string) {
	for i := range len(s) {
		r.next(func(c byte) bool { return c == s[i] })
	}
}

// text reads one of a form, and the byte that ends it, which is none of the form.
func (r *reader) text(f form, end byte) string {
	from := r.at
	for r.err == nil && !r.sees(end) {
		r.next(func(c byte) bool { return f.goesOn(r.at-from, c) })
	}
	s := string(r.b[from:r.at])
	r.next(func(byte) bool { return f.ends(s) })
	return s
}

// value reads one of at least so many bytes, and its line end.
func (r *reader) value(least int) string {
	s := r.text(plainForm(least), lineEnd[0])
	r.word(lineEnd[1:])
	return s
}

// digit reads one from least to most.
func (r *reader) digit(least, most int) int {
	c := r.next(func(c byte) bool { return isDigit(c) && int(c-'0') >= least && int(c-'0') <= most })
	return int(c) - '0'
}

// code reads its digits and their line end.
func (r *reader) code() int {
	n := r.digit(leastCode/100, mostCode/100)
	for range 2 {
		n = 10*n + r.digit(0, 9)
	}
	r.word(lineEnd)
	return n
}

// length reads one, behind its name, and its line end.
func (r *reader) length(least int) int {
	r.word(" ")
	n := r.digit(least, 9)
	// Behind a 0 every digit is one too many.
	for n > 0 && r.err == nil && !r.sees(lineEnd[0]) {
		n = 10*n + r.digit(0, 9)
		if n > api.MaxBody {
			r.fail(api.ErrFull)
		}
	}
	r.word(lineEnd)
	return n
}

// fields reads them, and the empty line behind them. The line whose name is last is no field: last
// has read it, then, and no other line follows.
func (r *reader) fields(last func(name string) bool) (l []api.Field) {
	for r.err == nil && !r.sees(lineEnd[0]) {
		name := r.text(nameForm(), ':')
		if r.err != nil || last(name) {
			break
		}
		if isTaken(name) {
			r.fail(api.ErrSyntax)
		}
		if len(l) == api.MaxFields {
			r.fail(api.ErrFull)
		}
		r.word(" ")
		l = append(l, api.Field{Name: name, Value: r.value(0)})
	}
	r.word(lineEnd)
	return l
}

// body reads n bytes.
func (r *reader) body(n int) []byte {
	if n > len(r.b)-r.at {
		r.fail(api.ErrShort)
	}
	if r.err != nil {
		return nil
	}
	r.at += n
	return bytes.Clone(r.b[r.at-n : r.at])
}

// pieces reads a body of chapter 9.
func (r *reader) pieces() []byte {
	if r.err != nil {
		return nil
	}
	body, used, err := chunk.Decode(r.b[r.at:])
	r.at += used
	r.err = err
	return body
}

// rest reads all that follows, if nothing more can come.
func (r *reader) rest(closed bool) []byte {
	if !closed {
		r.fail(api.ErrShort)
	}
	return r.body(len(r.b) - r.at)
}
