package route

import (
	"slices"
	"strings"
	"testing"

	"tollgate/api"
)

// modelFind cuts the path shorter and shorter, till there is a route for just that.
func modelFind(l []api.Route, host, path string) (int, api.Errno) {
	for n := len(path); n > 0; n-- {
		if n < len(path) && path[n] != '/' && path[n-1] != '/' {
			continue
		}
		for _, h := range []string{host, ""} {
			at := slices.IndexFunc(l, func(r api.Route) bool { return r.Host == h && r.Path == path[:n] })
			if at >= 0 {
				return at, api.OK
			}
		}
	}
	return 0, api.ErrNone
}

// modelParse goes through the bytes one by one. It asks nothing of how long a word is.
func modelParse(text string) (l []api.Route, at int, told api.Errno) {
	words, open := []string{""}, false
	for _, c := range []byte(text) {
		open = c != '\n'
		switch c {
		case ' ':
			words = append(words, "")
		case '\n':
			if told := modelLine(l, words); told != api.OK {
				return nil, at, told
			}
			host := words[0]
			if host == "*" {
				host = ""
			}
			l, words, at = append(l, way(host, words[1], words[2])), []string{""}, at+1
		default:
			words[len(words)-1] += one(int(c))
		}
	}
	if open {
		return nil, at, api.ErrSyntax
	}
	return l, 0, api.OK
}

func modelLine(l []api.Route, words []string) api.Errno {
	if len(words) != 3 {
		return api.ErrSyntax
	}
	if len(l) == mostWays {
		return api.ErrFull
	}
	if slices.Contains(words, "") || words[1][0] != '/' {
		return api.ErrSyntax
	}
	for _, c := range []byte(words[0] + words[1]) {
		if c < 33 || c > 126 {
			return api.ErrSyntax
		}
	}
	for _, c := range []byte(words[2]) {
		if !strings.Contains(tokenBytes, one(int(c))) {
			return api.ErrSyntax
		}
	}
	for _, r := range l {
		if (r.Host == words[0] || r.Host == "" && words[0] == "*") && r.Path == words[1] {
			return api.ErrClash
		}
	}
	return api.OK
}

// roller gives numbers that look as if they were rolled, the same in each run.
func roller(seed uint64) func(n int) int {
	return func(n int) int {
		seed = seed*6364136223846793005 + 1442695040888963407
		return int(seed>>33) % n
	}
}

// eachText hands over all texts of at most n bytes of a set.
func eachText(set string, n int, ask func(s string)) {
	ask("")
	if n == 0 {
		return
	}
	for i := range len(set) {
		eachText(set, n-1, func(s string) {
			ask(set[i:i+1] + s)
		})
	}
}

func checkAsModel(t *testing.T, text string) api.Errno {
	t.Helper()
	want, at, told := modelParse(text)
	if told != api.OK {
		refuseParse(t, text, at, told)
		return told
	}
	checkParse(t, text, want)
	return told
}

// All short texts; and what is right, printed, is the same text again.
func TestAllShortTexts(t *testing.T) {
	eachText("*/a \n", 7, func(s string) {
		if checkAsModel(t, s) == api.OK {
			l, _, _ := Parse(s)
			checkPrint(t, l, s, api.OK)
		}
		if t.Failed() {
			t.FailNow()
		}
	})
}

// Texts of many lines, most of them right.
func TestManyTexts(t *testing.T) {
	roll := roller(14)
	hosts, paths := []string{"*", "h", "k", "h.x", "*h", "**"}, []string{"/", "/a", "/b", "/a/", "/a/b", "/ab", "//", "/a/b/"}
	places := []string{"one", "two", "T-3", "_"}
	odd := []string{"", " ", "\n", "x", "*", "/", " /", "\r", "/ "}
	told := map[api.Errno]int{}
	for range 60_000 {
		text := ""
		for range roll(24) {
			text += hosts[roll(len(hosts))] + " " + paths[roll(len(paths))] + "/" + one('a'+roll(20)) + " " + places[roll(len(places))] + "\n"
		}
		if n := roll(len(text) + 1); roll(4) == 0 {
			text = text[:n] + odd[roll(len(odd))] + text[min(n+roll(2), len(text)):]
		}
		told[checkAsModel(t, text)]++
		if t.Failed() {
			t.FailNow()
		}
	}
	for _, e := range []api.Errno{api.OK, api.ErrSyntax, api.ErrFull, api.ErrClash} {
		if told[e] < 100 {
			t.Errorf("only %d texts came to %v", told[e], e)
		}
	}
}

// rolledList has at most n routes, for paths that the others often begin with.
func rolledList(roll func(n int) int, paths []string, n int) (l []api.Route) {
	for range n {
		path := "/" + paths[roll(len(paths))]
		r := way([]string{"", "h", "k"}[roll(3)], path[:min(len(path), 1+roll(6))], "t-"+one('a'+roll(26)))
		if !slices.ContainsFunc(l, func(o api.Route) bool { return o.Host == r.Host && o.Path == r.Path }) {
			l = append(l, r)
		}
	}
	return l
}

// Lists of routes, and all short paths.
func TestManyLists(t *testing.T) {
	roll := roller(41)
	var paths []string
	eachText("/ab", 5, func(s string) { paths = append(paths, s) })
	found := map[api.Errno]int{}
	for round := range 400 {
		l := rolledList(roll, paths, round%(mostWays+1))
		for _, path := range paths {
			for _, host := range []string{"", "h", "k", "x"} {
				want, told := modelFind(l, host, path)
				checkFind(t, l, host, path, want, told)
				found[told]++
				if told != api.OK {
					checkRest(t, l, host, path, "", "", told)
					continue
				}
				rest := path[len(l[want].Path):]
				if rest == "" || rest[0] != '/' {
					rest = "/" + rest
				}
				checkRest(t, l, host, path, l[want].To, rest, api.OK)
			}
		}
		if t.Failed() {
			t.FailNow()
		}
	}
	for _, e := range []api.Errno{api.OK, api.ErrNone} {
		if found[e] < 10_000 {
			t.Errorf("only %d requests came to %v", found[e], e)
		}
	}
}
