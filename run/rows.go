package run

import (
	"strings"

	"tollgate/api"
	"tollgate/code"
	"tollgate/frame"
	"tollgate/route"
	"tollgate/wire"
)

const (
	noHost  = "*"  // how it is written that a route is for all hosts
	noField = "-"  // what is told of an empty list
	taken   = "ok" // what is told where there is nothing else to tell
)

// row of the table: how its lines look, and what answers their words behind the first.
type row struct {
	form   string
	answer func(w words) (string, error)
}

func (s *session) rows() []row {
	return []row{
		{"put N N N", put},
		{"get HEX N", get},
		{"code WORD", encode},
		{"bits WORD", bits},
		{"say NAME VALUE", s.say},
		{"hear HEX", s.hear},
		{"frame HEX", readFrame},
		{"take N", s.take},
		{"give N", s.give},
		{"ask KEY N N", s.ask},
		{"route HOST PATH TO", s.route},
		{"find HOST PATH", s.find},
	}
}

func put(w words) (string, error) {
	b, err := wire.Put(w.numbers[0], w.numbers[1], w.numbers[2])
	return writeHex(b), err
}

func get(w words) (string, error) {
	n, used, err := wire.Get(w.bytes, w.numbers[0])
	return decimal(n, used), err
}

func encode(w words) (string, error) { return writeHex(code.Encode(w.texts[0])), nil }

func bits(w words) (string, error) { return decimal(code.Bits(w.texts[0])), nil }

func (s *session) say(w words) (string, error) {
	b, err := s.said.Encode([]api.Field{{Name: w.texts[0], Value: w.texts[1]}})
	return writeHex(b), err
}

func (s *session) hear(w words) (string, error) {
	l, err := s.heard.Decode(w.bytes)
	if len(l) == 0 {
		return noField, err
	}
	var fields []string
	for _, f := range l {
		fields = append(fields, f.Name+"="+f.Value)
	}
	return strings.Join(fields, blank), err
}

func readFrame(w words) (string, error) {
	f, _, err := frame.Read(w.bytes)
	return decimal(f.Kind, f.Flags, f.Stream, len(f.Body), frame.Check(f)), err
}

func (s *session) take(w words) (string, error) {
	err := s.window.Take(w.numbers[0])
	return decimal(s.window.Left()), err
}

func (s *session) give(w words) (string, error) {
	err := s.window.Give(w.numbers[0])
	return decimal(s.window.Left()), err
}

func (s *session) ask(w words) (string, error) {
	enough, err := s.limit.Ask(w.texts[0], w.numbers[0], w.numbers[1])
	if enough {
		return "yes", err
	}
	return "no", err
}

func (s *session) route(w words) (string, error) {
	r := api.Route{Host: w.texts[0], Path: w.texts[1], To: w.texts[2]}
	if r.Host == noHost {
		r.Host = ""
	}
	more := append(s.routes, r)
	if err := route.Check(more); err != nil {
		return "", err
	}
	s.routes = more
	return taken, nil
}

func (s *session) find(w words) (string, error) {
	to, rest, err := route.Rest(s.routes, w.texts[0], w.texts[1])
	return to + blank + rest, err
}
