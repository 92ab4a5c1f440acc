package fields

import (
	"slices"
	"strconv"
	"strings"

	"tollgate/api"
	"tollgate/line"
)

const (
	leadByte       = ":" // a name that begins so says what stands in a message's first line, or its host
	methodName     = ":method"
	pathName       = ":path"
	hostLead       = ":host"
	codeName       = ":code"
	connectionName = "connection"
	codingName     = "coding"
	keepName       = "keep"
	upgradeName    = "upgrade"
	hostName       = "host"
	lengthName     = "length"
	cookieName     = "cookie"
	cookieGap      = "; "
	nameGap        = ", "
)

// lead tells where the names stand that begin with leadByte: these are there, each once and ahead
// of all others, and no more of that kind.
func lead(l []api.Field, names ...string) (at map[string]int, ok bool) {
	at = map[string]int{}
	for i, f := range l {
		if !strings.HasPrefix(f.Name, leadByte) {
			continue
		}
		at[f.Name] = i
		// It is less where one was passed over, or was there already.
		if len(at) != i+1 {
			return nil, false
		}
	}
	for _, name := range names {
		if _, found := at[name]; !found {
			return nil, false
		}
	}
	return at, len(at) == len(names)
}

// mayBeAsked tells whether these may be in a request with a body of so many bytes.
func mayBeAsked(l []api.Field, size int) bool {
	length := strconv.Itoa(size)
	return !slices.ContainsFunc(l, func(f api.Field) bool {
		return isBetween(f) || f.Name == hostName || isLength(f) && f.Value != length
	})
}

func isBetween(f api.Field) bool {
	return f.Name == connectionName || f.Name == codingName || f.Name == keepName || f.Name == upgradeName
}

func isLength(f api.Field) bool { return f.Name == lengthName }

func isCookie(f api.Field) bool { return f.Name == cookieName }

// without those that are out; the list is a new one.
func without(l []api.Field, out func(f api.Field) bool) (left []api.Field) {
	for _, f := range l {
		if !out(f) {
			left = append(left, f)
		}
	}
	return left
}

// namedBy tells how often each name stands in a connection field.
func namedBy(l []api.Field) map[string]int {
	named := map[string]int{}
	for _, f := range l {
		if f.Name != connectionName {
			continue
		}
		for _, name := range strings.Split(f.Value, nameGap) {
			if line.Token(name) {
				named[name]++
			}
		}
	}
	return named
}

// cutCookies makes of each cookie as many as it has pieces.
func cutCookies(l []api.Field) (cut []api.Field) {
	for _, f := range l {
		if !isCookie(f) {
			cut = append(cut, f)
			continue
		}
		for _, piece := range strings.Split(f.Value, cookieGap) {
			cut = append(cut, api.Field{Name: cookieName, Value: piece})
		}
	}
	return cut
}

// joinCookies makes one of all cookies, where the first one stands.
func joinCookies(l []api.Field) []api.Field {
	first := slices.IndexFunc(l, isCookie)
	if first < 0 {
		return l
	}
	var values []string
	for _, f := range l {
		if isCookie(f) {
			values = append(values, f.Value)
		}
	}
	whole := api.Field{Name: cookieName, Value: strings.Join(values, cookieGap)}
	return slices.Insert(without(l, isCookie), first, whole)
}
