package route

import (
	"fmt"
	"slices"
	"strconv"
	"strings"
	"testing"

	"tollgate/api"
	"tollgate/plain"
)

const (
	most     = 400 // bytes of a text
	mostWays = 20  // routes
)

const tokenBytes = "abcdefghijklmnopqrstuvwxyzABCDEFGHIJKLMNOPQRSTUVWXYZ0123456789-_"

// way is a route.
func way(host, path, to string) api.Route { return api.Route{Host: host, Path: path, To: to} }

// ways are n routes, each for a path of its own.
func ways(n int) (l []api.Route) {
	for i := range n {
		l = append(l, way("", "/"+strconv.Itoa(i), "t"))
	}
	return l
}

// one byte as a text.
func one(c int) string { return string([]byte{byte(c)}) }

// xs is a text of n letters.
func xs(n int) string { return strings.Repeat("x", n) }

func short(v any) string {
	s := fmt.Sprintf("%q", v)
	if len(s) > 160 {
		return s[:160] + " .. (" + strconv.Itoa(len(s)) + ")"
	}
	return s
}

func checkCheck(t *testing.T, l []api.Route, told api.Errno) {
	t.Helper()
	if err := Check(l); plain.Told(err) != told {
		t.Errorf("Check of %s: got %v, want %v", short(l), err, told)
	}
}

func checkFind(t *testing.T, l []api.Route, host, path string, want int, told api.Errno) {
	t.Helper()
	if got, err := Find(l, host, path); got != want || plain.Told(err) != told {
		t.Errorf("Find of %s, %q, %s: got %d %v, want %d %v", short(l), host, short(path), got, err, want, told)
	}
}

func checkRest(t *testing.T, l []api.Route, host, path, to, rest string, told api.Errno) {
	t.Helper()
	if a, b, err := Rest(l, host, path); a != to || b != rest || plain.Told(err) != told {
		t.Errorf("Rest of %s, %q, %s: got %q %s %v, want %q %s %v", short(l), host, short(path), a, short(b), err, to, short(rest), told)
	}
}

func checkPrint(t *testing.T, l []api.Route, want string, told api.Errno) {
	t.Helper()
	if got, err := Print(l); got != want || plain.Told(err) != told {
		t.Errorf("Print of %s: got %s %v, want %s %v", short(l), short(got), err, short(want), told)
	}
}

func checkParse(t *testing.T, text string, want []api.Route) {
	t.Helper()
	if got, at, err := Parse(text); !slices.Equal(got, want) || at != 0 || err != nil {
		t.Errorf("Parse of %s: got %s %d %v, want %s", short(text), short(got), at, err, short(want))
	}
}

func refuseParse(t *testing.T, text string, at int, told api.Errno) {
	t.Helper()
	if got, n, err := Parse(text); len(got) != 0 || n != at || plain.Told(err) != told {
		t.Errorf("Parse of %s: got %s %d %v, want %d %v", short(text), short(got), n, err, at, told)
	}
}

// refuse asks that each call that takes routes tells the same error of them.
func refuse(t *testing.T, l []api.Route, told api.Errno) {
	t.Helper()
	checkCheck(t, l, told)
	checkPrint(t, l, "", told)
	for _, path := range []string{"", "/", "/a", "/0/b", "x"} {
		for _, host := range []string{"", "h", "*"} {
			checkFind(t, l, host, path, 0, told)
			checkRest(t, l, host, path, "", "", told)
		}
	}
}
