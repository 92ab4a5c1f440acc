package store

import (
	"bytes"
	"slices"
	"strings"

	"tollgate/api"
	"tollgate/line"
)

const (
	varyName     = "vary"
	betweenNames = ", "
)

// kept is a reply, with what it is found by.
type kept struct {
	host, path string
	varied     []api.Field // of the request that it was put for
	reply      api.Reply
	at         int
}

func keep(r api.Request, a api.Reply, now int) kept {
	return kept{host: r.Host, path: r.Path, varied: varied(a, r), reply: copyOf(a), at: now}
}

// fits asks the vary of the reply that is kept, whatever a new one says.
func (k kept) fits(r api.Request) bool {
	return k.host == r.Host && k.path == r.Path && slices.Equal(k.varied, varied(k.reply, r))
}

// lives tells whether it may be told now.
func (k kept) lives(now int) bool {
	age := now - k.at
	return age >= 0 && age < Life(k.reply)
}

// varied gives the fields of a request that the vary of a reply names. Those of one name stay in
// their order; the names are sorted, as it does not matter how fields of two names stand.
func varied(a api.Reply, r api.Request) (l []api.Field) {
	names := namesOf(a)
	for _, f := range r.Fields {
		if names[f.Name] > 0 {
			l = append(l, f)
		}
	}
	slices.SortStableFunc(l, func(f, g api.Field) int { return strings.Compare(f.Name, g.Name) })
	return l
}

// namesOf counts the names in the vary of a reply.
func namesOf(a api.Reply) map[string]int {
	names := map[string]int{}
	for piece := range strings.SplitSeq(firstValue(a.Fields, varyName), betweenNames) {
		if line.Token(piece) {
			names[piece]++
		}
	}
	return names
}

// firstValue of a name: one that is not there says as much as an empty one.
func firstValue(l []api.Field, name string) string {
	at := slices.IndexFunc(l, func(f api.Field) bool { return f.Name == name })
	if at < 0 {
		return ""
	}
	return l[at].Value
}

func copyOf(a api.Reply) api.Reply {
	return api.Reply{Code: a.Code, Fields: append([]api.Field(nil), a.Fields...), Body: bytes.Clone(a.Body)}
}
