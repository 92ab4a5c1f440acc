package route

import (
	"slices"
	"strings"
	"testing"

	"tollgate/api"
)

func TestCheck(t *testing.T) {
	for _, l := range [][]api.Route{
		nil,
		{},
		{way("", "/", "t")},
		{way("h", "/", "t")},
		{way("h.x:80", "/a/b?c=*", "T-3_x")},
		{way("**", "//", "-")},
		{way("*h", "/*", "0")},
		{way("h*", "/a//", "_")},
		{way("/", "/", "a")},
		{way("", "/a", "t"), way("h", "/a", "t"), way("", "/a/", "t"), way("H", "/a", "t"), way("h", "/A", "t")},
	} {
		checkCheck(t, l, api.OK)
	}
}

func TestCheckFull(t *testing.T) {
	for _, n := range []int{1, 2, mostWays - 1, mostWays} {
		checkCheck(t, ways(n), api.OK)
	}
	for _, n := range []int{mostWays + 1, mostWays + 2, 1000} {
		refuse(t, ways(n), api.ErrFull)
	}
}

// Each byte, at each place of each of the three texts.
func TestCheckEachByte(t *testing.T) {
	for c := range 256 {
		s := one(c)
		word := c > 32 && c < 127
		token := strings.Contains(tokenBytes, s)
		for _, p := range []string{s, s + "x", "x" + s, "x" + s + "x", xs(most-1) + s, s + xs(most-1)} {
			checkCheck(t, []api.Route{way(p, "/", "t")}, syntaxUnless(word && p != "*"))
			checkCheck(t, []api.Route{way("", p, "t")}, syntaxUnless(word && p[0] == '/'))
			checkCheck(t, []api.Route{way("", "/", p)}, syntaxUnless(token))
		}
		for _, p := range []string{"/" + s, "/" + s + "x", "/x" + s, "/" + xs(most-2) + s} {
			checkCheck(t, []api.Route{way("h", p, "t")}, syntaxUnless(word))
		}
	}
}

func syntaxUnless(right bool) api.Errno {
	if right {
		return api.OK
	}
	return api.ErrSyntax
}

func TestCheckLongest(t *testing.T) {
	for _, n := range []int{1, 2, most - 1, most, most + 1, most + 2, 2 * most, 1 << 20} {
		told := syntaxUnless(n <= most)
		checkCheck(t, []api.Route{way(xs(n), "/", "t")}, told)
		checkCheck(t, []api.Route{way("", "/"+xs(n-1), "t")}, told)
		checkCheck(t, []api.Route{way("", strings.Repeat("/", n), "t")}, told)
		checkCheck(t, []api.Route{way("", "/", xs(n))}, told)
	}
	checkCheck(t, []api.Route{way(xs(most), "/"+xs(most-1), xs(most))}, api.OK)
}

// wrongWays have one text that is wrong, and two that are not.
func wrongWays() []api.Route {
	return []api.Route{
		way("*", "/", "t"), way(" ", "/", "t"), way("a b", "/", "t"), way(" a", "/", "t"), way("a ", "/", "t"), way("a\tb", "/", "t"), way("a\n", "/", "t"), way("\x7f", "/", "t"), way("ä", "/", "t"), way(xs(most+1), "/", "t"),
		way("h", "", "t"), way("h", " ", "t"), way("h", "a", "t"), way("h", "a/", "t"), way("h", "*", "t"), way("h", " /", "t"), way("h", "/ ", "t"), way("h", "/a b", "t"), way("h", "/\n", "t"), way("h", "/\x00", "t"), way("h", "/ä", "t"), way("h", "/"+xs(most), "t"),
		way("", "/", ""), way("", "/", " "), way("", "/", "a b"), way("", "/", " a"), way("", "/", "a "), way("", "/", "a.b"), way("", "/", "/a"), way("", "/", "a:80"), way("", "/", "*"), way("", "/", "a\r"), way("", "/", "ä"), way("", "/", xs(most+1)),
		{},
	}
}

func TestCheckSyntax(t *testing.T) {
	for _, r := range wrongWays() {
		refuse(t, []api.Route{r}, api.ErrSyntax)
		refuse(t, []api.Route{way("k", "/k", "t"), r}, api.ErrSyntax)
		refuse(t, []api.Route{r, way("k", "/k", "t")}, api.ErrSyntax)
		refuse(t, append(ways(mostWays-1), r), api.ErrSyntax)
	}
}

func TestCheckClash(t *testing.T) {
	for _, r := range []api.Route{way("", "/", "t"), way("h", "/", "t"), way("", "/a", "t"), way("h", "/a/", "t"), way(xs(most), "/"+xs(most-1), "t")} {
		for _, to := range []string{"t", "u"} {
			again := way(r.Host, r.Path, to)
			refuse(t, []api.Route{r, again}, api.ErrClash)
			refuse(t, []api.Route{way("k", "/k", "t"), r, again}, api.ErrClash)
			refuse(t, []api.Route{r, way("k", "/k", "t"), again}, api.ErrClash)
			refuse(t, []api.Route{r, again, way("k", "/k", "t")}, api.ErrClash)
			refuse(t, slices.Concat([]api.Route{r}, ways(mostWays-2), []api.Route{again}), api.ErrClash)
		}
		// One of both alone is the same.
		checkCheck(t, []api.Route{r, way("k", r.Path, r.To)}, api.OK)
		checkCheck(t, []api.Route{way("k", r.Path, r.To), r}, api.OK)
		checkCheck(t, []api.Route{r, way(r.Host, "/k", r.To)}, api.OK)
		checkCheck(t, []api.Route{way(r.Host, "/k", r.To), r}, api.OK)
	}
	// What is the same only if both texts are put together.
	checkCheck(t, []api.Route{way("h", "/a/b", "t"), way("h/a", "/b", "t")}, api.OK)
	checkCheck(t, []api.Route{way("", "/a", "t"), way("/", "/a", "t"), way("/a", "/a", "t")}, api.OK)
}

func TestCheckWhichError(t *testing.T) {
	good, bad := way("h", "/a", "t"), way("h", "/a", "")
	starred := way("*", "/a", "t")
	for _, c := range []struct {
		l    []api.Route
		told api.Errno
	}{
		{[]api.Route{good, bad}, api.ErrSyntax}, // of one route ErrSyntax is named first
		{[]api.Route{good, good, bad}, api.ErrClash},
		{[]api.Route{good, bad, good}, api.ErrSyntax},
		{[]api.Route{bad, good, good}, api.ErrSyntax},
		{[]api.Route{bad, bad}, api.ErrSyntax},
		{[]api.Route{good, good, starred}, api.ErrClash},
		{[]api.Route{good, starred, good}, api.ErrSyntax},
		{[]api.Route{starred, starred}, api.ErrSyntax},
		{slices.Repeat([]api.Route{good}, mostWays), api.ErrClash},
		{slices.Repeat([]api.Route{bad}, mostWays), api.ErrSyntax},
		{slices.Repeat([]api.Route{good}, mostWays+1), api.ErrFull},
		{slices.Repeat([]api.Route{bad}, mostWays+1), api.ErrFull},
		{append(ways(mostWays), bad), api.ErrFull},
		{append(ways(mostWays), ways(1)...), api.ErrFull},
		{append([]api.Route{bad}, ways(mostWays)...), api.ErrFull},
	} {
		refuse(t, c.l, c.told)
	}
}
