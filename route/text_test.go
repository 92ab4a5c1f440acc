package route

import (
	"strconv"
	"strings"
	"testing"

	"tollgate/api"
)

// lines of n routes, each for a path of its own.
func lines(n int) (s string) {
	for i := range n {
		s += "* /" + strconv.Itoa(i) + " t\n"
	}
	return s
}

func TestText(t *testing.T) {
	long := way(xs(most), "/"+xs(most-1), xs(most))
	for _, c := range []struct {
		l    []api.Route
		want string
	}{
		{nil, ""},
		{[]api.Route{}, ""},
		{[]api.Route{way("", "/", "t")}, "* / t\n"},
		{[]api.Route{way("h", "/", "t")}, "h / t\n"},
		{[]api.Route{way("**", "/*", "-")}, "** /* -\n"},
		{[]api.Route{way("h.x:80", "/a/b", "T-3"), way("", "/a", "one"), way("h.x:80", "/a", "T-3")}, "h.x:80 /a/b T-3\n* /a one\nh.x:80 /a T-3\n"},
		{[]api.Route{way("", "/b", "t"), way("", "/a", "t"), way("a", "/a", "t")}, "* /b t\n* /a t\na /a t\n"},
		{[]api.Route{long}, long.Host + " " + long.Path + " " + long.To + "\n"},
		{ways(mostWays - 1), lines(mostWays - 1)},
		{ways(mostWays), lines(mostWays)},
	} {
		checkPrint(t, c.l, c.want, api.OK)
		checkParse(t, c.want, c.l)
	}
}

// fault of a line, wherever it stands.
type fault struct {
	line string
	told api.Errno
}

// uncounted are lines that have not three words.
func uncounted() []string {
	return []string{"", " ", "*", "h", "* /a", "h ", " /a", "*/at", "x\ty\tz", "* /a t u", "* /a t ", " * /a t", "*  /a t", "* /a  t", "   ", "    ", "* /a t\r *", strings.Repeat(" ", 1000), strings.Repeat("h ", 1000)}
}

// misworded are lines that have three words, of which one or more may not be.
func misworded() []string {
	return []string{
		"  ", " /a t", "*  t", "* /a ", "h  t", "h /a ", " / ", "  t", "h  ",
		"* a t", "* * t", "h h/ t", "* /a *", "* /a /b", "* /a a.b", "/a * t", "* /\t t", "h\t /a t", "h\r /a t", "* /a t\r", "\x00 /a t", "* /\x7f t", "ä /a t", "* /ä t", "* /a ä",
		xs(most+1) + " /a t", "* /" + xs(most) + " t", "* /a " + xs(most+1),
	}
}

// At each place, with nothing behind, a line that is right, and one that is not.
func TestParseFaults(t *testing.T) {
	var l []fault
	for _, s := range append(uncounted(), misworded()...) {
		l = append(l, fault{s, api.ErrSyntax})
	}
	for n := range mostWays {
		behind := []fault{}
		if n > 0 {
			behind = []fault{{"* /0 t", api.ErrClash}, {"* /0 u", api.ErrClash}, {"* /" + strconv.Itoa(n-1) + " t", api.ErrClash}, {"* /0 ", api.ErrSyntax}, {" /0 t", api.ErrSyntax}}
		}
		for _, f := range append(behind, l...) {
			text := lines(n) + f.line + "\n"
			refuseParse(t, text, n, f.told)
			refuseParse(t, text+"* /right t\n", n, f.told)
			refuseParse(t, text+"* /0 t\n* /0 t\n", n, f.told)
			refuseParse(t, text+"wrong\n", n, f.told)
			refuseParse(t, text+"* /open t", n, f.told)
			refuseParse(t, text+lines(mostWays+1), n, f.told)
		}
	}
}

func TestParseOpenLine(t *testing.T) {
	for n := range mostWays + 3 {
		at, told := n, api.ErrSyntax
		if n > mostWays {
			at, told = mostWays, api.ErrFull // a line ahead is wrong
		}
		for _, s := range append(append(uncounted(), misworded()...), "* /open t", "h /open t", "* /0 t", "* /open t\r", "* /open") {
			if s != "" {
				refuseParse(t, lines(n)+s, at, told)
			}
		}
	}
	whole := lines(mostWays)
	for n := range len(whole) {
		ended := n == 0 || whole[n-1] == '\n'
		count := strings.Count(whole[:n], "\n")
		if ended {
			checkParse(t, whole[:n], ways(count))
		} else {
			refuseParse(t, whole[:n], count, api.ErrSyntax)
		}
	}
}

// Of the 21st line: it has three words, whatever they are, or not.
func TestParseFull(t *testing.T) {
	full := lines(mostWays)
	checkParse(t, full, ways(mostWays))
	for _, s := range append(misworded(), "* /right t", "h /right t", "* /0 t", "* /19 t", "h /0 t", "* /0 ", " /0 t") {
		for _, behind := range []string{"", "wrong\n", "* /right t\n", "\n", "x", lines(mostWays)} {
			refuseParse(t, full+s+"\n"+behind, mostWays, api.ErrFull)
		}
		refuseParse(t, full+s, mostWays, api.ErrSyntax)
	}
	for _, s := range uncounted() {
		for _, behind := range []string{"", "wrong\n", "* /right t\n", "\n", "x", lines(mostWays)} {
			refuseParse(t, full+s+"\n"+behind, mostWays, api.ErrSyntax)
		}
	}
	refuseParse(t, lines(mostWays+1), mostWays, api.ErrFull)
	refuseParse(t, lines(10_000), mostWays, api.ErrFull)
	// A line ahead that is wrong is told.
	refuseParse(t, lines(mostWays-1)+"* /0 t\n* /20 t\n", mostWays-1, api.ErrClash)
	refuseParse(t, lines(mostWays-1)+"wrong\n* /20 t\n", mostWays-1, api.ErrSyntax)
}

func TestParseClash(t *testing.T) {
	refuseParse(t, "* /a t\n* /a t\n", 1, api.ErrClash)
	refuseParse(t, "h /a t\nh /a u\n", 1, api.ErrClash)
	refuseParse(t, "h /a t\n* /a t\nk /a t\n* /a u\n", 3, api.ErrClash)
	checkParse(t, "h /a t\n* /a t\nk /a t\nh /a/ t\nh / t\n", []api.Route{way("h", "/a", "t"), way("", "/a", "t"), way("k", "/a", "t"), way("h", "/a/", "t"), way("h", "/", "t")})
	// Where several apply: ErrSyntax ahead of ErrClash, of one line; of two the first line.
	refuseParse(t, "* /a t\n* /a \n", 1, api.ErrSyntax)
	refuseParse(t, "* /a t\n /a t\n", 1, api.ErrSyntax)
	refuseParse(t, "* /a t\n* /a t", 1, api.ErrSyntax)
	refuseParse(t, "* /a t\n* /a t\nwrong\n", 1, api.ErrClash)
	refuseParse(t, "* /a t\nwrong\n* /a t\n", 1, api.ErrSyntax)
}

// Each byte in each of the words.
func TestParseEachByte(t *testing.T) {
	for c := range 256 {
		s := one(c)
		word := c > 32 && c < 127
		for _, p := range []struct {
			r     api.Route
			right bool
		}{
			{way(s, "/", "t"), word},
			{way("h"+s, "/", "t"), word},
			{way(s+"h", "/", "t"), word},
			{way("h", "/"+s, "t"), word},
			{way("h", "/"+s+"x", "t"), word},
			{way("h", s, "t"), c == '/'},
			{way("h", "/", s), strings.Contains(tokenBytes, s)},
			{way("h", "/", "t"+s), strings.Contains(tokenBytes, s)},
			{way("h", "/", s+"t"), strings.Contains(tokenBytes, s)},
		} {
			text := p.r.Host + " " + p.r.Path + " " + p.r.To + "\n"
			switch {
			case !p.right:
				// A line end in the last word leaves a line that is right ahead of one that is not.
				at := 1
				if strings.HasPrefix(text, "h / t\n") {
					at = 2
				}
				refuseParse(t, "* /z t\n"+text, at, api.ErrSyntax)
			case p.r.Host == "*":
				checkParse(t, text, []api.Route{way("", p.r.Path, p.r.To)})
			default:
				checkParse(t, text, []api.Route{p.r})
			}
		}
	}
}

// What came out is the caller's.
func TestParseIsNewMemory(t *testing.T) {
	text := lines(5)
	a, _, _ := Parse(text)
	b, _, _ := Parse(text)
	for i := range a[:cap(a)] {
		a[:cap(a)][i] = way("x", "/x", "x")
	}
	if text != lines(5) {
		t.Error("Parse has given out what it was handed")
	}
	for i, r := range ways(5) {
		if b[i] != r {
			t.Errorf("route %d has become %q", i, b[i])
		}
	}
	if l, _, err := Parse("* /a t\n* /b t\nwrong\n"); len(l) != 0 || err == nil {
		t.Errorf("Parse of a text that is wrong: got %q %v", l, err)
	}
}

func TestGreatTexts(t *testing.T) {
	for _, s := range []string{" ", "\n", "\x00", "*", "/", "* /a", "\r\n", "ä"} {
		refuseParse(t, strings.Repeat(s, 1<<18), 0, api.ErrSyntax)
	}
	path := "/" + strings.Repeat("a/", 1<<18)
	checkRest(t, []api.Route{way("", "/a", "t"), way("", "/a/a", "u")}, xs(1<<18), path, "u", path[4:], api.OK)
}
