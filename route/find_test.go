package route

import (
	"slices"
	"testing"

	"tollgate/api"
)

func TestFindNone(t *testing.T) {
	for _, l := range [][]api.Route{nil, {}, {way("k", "/", "t")}, {way("", "/x", "t"), way("h", "/y/", "t")}} {
		for _, path := range []string{"", "/", "/a", "x", "/y", "/xy", "/a/x"} {
			for _, host := range []string{"", "h", "*"} {
				checkFind(t, l, host, path, 0, api.ErrNone)
				checkRest(t, l, host, path, "", "", api.ErrNone)
			}
		}
	}
}

// What one route leads, and what is left of the path.
func TestOneRoute(t *testing.T) {
	for _, c := range []struct {
		from, path, rest string
	}{
		{"/a", "/a", "/"},
		{"/a", "/a/", "/"},
		{"/a", "/a/b", "/b"},
		{"/a", "/a//b", "//b"},
		{"/a", "/a/a", "/a"},
		{"/a", "/a/a/a", "/a/a"},
		{"/a", "/a/ \x00\xff", "/ \x00\xff"},
		{"/a/", "/a/", "/"},
		{"/a/", "/a/b", "/b"},
		{"/a/", "/a//", "/"},
		{"/a/", "/a//b", "/b"},
		{"/a/", "/a/b/", "/b/"},
		{"/a/", "/a/\x00", "/\x00"},
		{"/a//", "/a//b", "/b"},
		{"/a//", "/a///b", "/b"},
		{"/", "/", "/"},
		{"/", "/a", "/a"},
		{"/", "//", "/"},
		{"/", "//a", "/a"},
		{"/", "///", "//"},
		{"/", "/a/b", "/a/b"},
		{"//", "//", "/"},
		{"//", "//a", "/a"},
		{"/a/b", "/a/b", "/"},
		{"/a/b", "/a/b/a/b", "/a/b"},
		{"/a?b", "/a?b/c", "/c"},
		{"/" + xs(most-1), "/" + xs(most-1) + "/" + xs(1000), "/" + xs(1000)},
	} {
		for _, host := range []string{"", "h"} {
			l := []api.Route{way(host, c.from, "T-3")}
			checkFind(t, l, "h", c.path, 0, api.OK)
			checkRest(t, l, "h", c.path, "T-3", c.rest, api.OK)
		}
	}
	for _, c := range []struct{ from, path string }{
		{"/a", ""}, {"/a", "/"}, {"/a", "a"}, {"/a", "/b"}, {"/a", "/A"}, {"/a", "/ab"}, {"/a", "/a?"}, {"/a", "/a.b"}, {"/a", "/a b"}, {"/a", "/a\x00"}, {"/a", "//a"}, {"/a", "/b/a"}, {"/a", " /a"}, {"/a", "/aa/a"},
		{"/a/", "/a"}, {"/a/", "/ab/"}, {"/a/", "/"}, {"/a/", "a/"}, {"/a//", "/a/"}, {"/a//", "/a/b"},
		{"/", ""}, {"/", "a"}, {"/", "a/"}, {"/", " /"}, {"/", "*"}, {"//", "/"}, {"//", "/a"}, {"/a/b", "/a"}, {"/a/b", "/a/"}, {"/a/b", "/a/bc"}, {"/a/b", "/a/c/b"},
		{"/" + xs(most-1), "/" + xs(most)}, {"/" + xs(most-1), "/" + xs(most-2)}, {"/" + xs(most-1), "/" + xs(most-2) + "/x"},
	} {
		for _, host := range []string{"", "h"} {
			l := []api.Route{way(host, c.from, "T-3")}
			checkFind(t, l, "h", c.path, 0, api.ErrNone)
			checkRest(t, l, "h", c.path, "", "", api.ErrNone)
		}
	}
}

// Each byte that may follow a Path.
func TestFollows(t *testing.T) {
	for c := range 256 {
		told, want, rest := api.ErrNone, "", ""
		if c == '/' {
			told, want, rest = api.OK, "t", "/x"
		}
		checkFind(t, []api.Route{way("", "/a", "t")}, "h", "/a"+one(c)+"x", 0, told)
		checkRest(t, []api.Route{way("", "/a", "t")}, "h", "/a"+one(c)+"x", want, rest, told)
		behind := "/" + one(c)
		if c == '/' {
			behind = "/"
		}
		checkFind(t, []api.Route{way("", "/a/", "t")}, "h", "/a/"+one(c), 0, api.OK)
		checkRest(t, []api.Route{way("", "/a/", "t")}, "h", "/a/"+one(c), "t", behind, api.OK)
	}
}

// both asks for a route of a list in that order and in the other one.
func both(t *testing.T, l []api.Route, host, path string, want int, rest string) {
	t.Helper()
	to := l[want].To
	checkFind(t, l, host, path, want, api.OK)
	checkRest(t, l, host, path, to, rest, api.OK)
	back := slices.Clone(l)
	slices.Reverse(back)
	checkFind(t, back, host, path, len(l)-1-want, api.OK)
	checkRest(t, back, host, path, to, rest, api.OK)
}

func TestLongest(t *testing.T) {
	l := []api.Route{way("", "/", "root"), way("", "/a", "a"), way("", "/a/", "in-a"), way("", "/a/b", "b"), way("", "/ab", "ab"), way("", "/a/b/c/", "c")}
	for _, c := range []struct {
		path string
		want int
		rest string
	}{
		{"/", 0, "/"}, {"/b", 0, "/b"}, {"/abc", 0, "/abc"}, {"//a", 0, "/a"},
		{"/a", 1, "/"},
		{"/a/", 2, "/"}, {"/a/c", 2, "/c"}, {"/a/bc", 2, "/bc"}, {"/a//b", 2, "/b"},
		{"/a/b", 3, "/"}, {"/a/b/", 3, "/"}, {"/a/b/c", 3, "/c"},
		{"/ab", 4, "/"}, {"/ab/c", 4, "/c"},
		{"/a/b/c/", 5, "/"}, {"/a/b/c/d", 5, "/d"},
	} {
		both(t, l, "h", c.path, c.want, c.rest)
		both(t, l, "", c.path, c.want, c.rest)
	}
}

func TestLongestOfTwenty(t *testing.T) {
	var l []api.Route
	path := ""
	for range mostWays {
		path += "/a"
		l = append(l, way("", path, "t"))
	}
	for i, r := range l {
		both(t, l, "h", r.Path+"/b", i, "/b")
		both(t, l, "h", r.Path, i, "/")
	}
}

// Of equal Paths that with a Host, but the longest Path ahead of it, with a Host or without.
func TestHosts(t *testing.T) {
	l := []api.Route{way("", "/a", "all"), way("h", "/a", "h"), way("k", "/a", "k"), way("", "/a/b", "all-b"), way("k", "/a/b/", "k-b"), way("h", "/", "h-root")}
	for _, c := range []struct {
		host, path string
		want       int
		rest       string
	}{
		{"h", "/a", 1, "/"}, {"k", "/a", 2, "/"}, {"", "/a", 0, "/"}, {"x", "/a/c", 0, "/c"}, {"H", "/a", 0, "/"}, {"hh", "/a", 0, "/"}, {"*", "/a", 0, "/"}, {"h ", "/a", 0, "/"}, {"\x00", "/a", 0, "/"},
		{"h", "/a/b", 3, "/"}, {"h", "/a/b/c", 3, "/c"}, {"k", "/a/b", 3, "/"}, {"k", "/a/b/c", 4, "/c"}, {"x", "/a/b/c", 3, "/c"}, {"", "/a/b/c", 3, "/c"},
		{"h", "/x", 5, "/x"}, {"h", "/ab", 5, "/ab"},
	} {
		both(t, l, c.host, c.path, c.want, c.rest)
	}
	for _, host := range []string{"", "k", "x", "H", "*"} {
		checkFind(t, l, host, "/x", 0, api.ErrNone)
		checkRest(t, l, host, "/x", "", "", api.ErrNone)
	}
	both(t, []api.Route{way("h", "/a/", "h"), way("", "/a/", "all")}, "h", "/a/b", 0, "/b")
	both(t, []api.Route{way("h", "/", "h"), way("", "/", "all"), way("k", "/", "k")}, "h", "/", 0, "/")
	both(t, []api.Route{way("h", "/", "h"), way("", "/", "all"), way("k", "/", "k")}, "", "/", 1, "/")
}

// Check is asked first, even if the path has a route, and of routes that do not fit it.
func TestFindChecksFirst(t *testing.T) {
	good := way("", "/a", "t")
	for _, c := range []struct {
		l    []api.Route
		told api.Errno
	}{
		{[]api.Route{good, way("k", "x", "t")}, api.ErrSyntax},
		{[]api.Route{good, way("*", "/b", "t")}, api.ErrSyntax},
		{[]api.Route{way("k", "/b", "t"), way("k", "/b", "u"), good}, api.ErrClash},
		{append(ways(mostWays), good), api.ErrFull},
	} {
		checkFind(t, c.l, "h", "/a", 0, c.told)
		checkRest(t, c.l, "h", "/a", "", "", c.told)
		checkFind(t, c.l, "h", "/c", 0, c.told)
		checkRest(t, c.l, "h", "/c", "", "", c.told)
	}
}

// A list is not written into, and what lies behind its length does not count.
func TestListsAreLeft(t *testing.T) {
	all := append(ways(mostWays), way("", "/0", "u"), way("*", "", ""))
	for n := range mostWays + 1 {
		l := all[:n]
		before := slices.Clone(all)
		checkCheck(t, l, api.OK)
		text, err := Print(l)
		if err != nil {
			t.Errorf("Print of %d: %v", n, err)
		}
		checkParse(t, text, l)
		for i := range mostWays {
			want, told := i, api.OK
			if i >= n {
				want, told = 0, api.ErrNone
			}
			checkFind(t, l, "h", all[i].Path, want, told)
			if told == api.OK {
				checkRest(t, l, "h", all[i].Path, "t", "/", told)
			}
		}
		if !slices.Equal(all, before) {
			t.Fatalf("the list of %d has become %s", n, short(all))
		}
	}
}
