package run

import "testing"

func TestRoute(t *testing.T) {
	play(t,
		said{"find h /a", "ErrNone"}, said{"route * / one", "ok"}, said{"find h /a", "one /a"}, said{"find h /", "one /"}, said{"find  /a/b", "one /a/b"}, said{"find * /a", "one /a"}, said{"find h a", "ErrNone"}, said{"find h ", "ErrNone"},
		said{"route h /a two", "ok"}, said{"find h /a", "two /"}, said{"find h /a/b", "two /b"}, said{"find h /a/", "two /"}, said{"find h /ab", "one /ab"}, said{"find k /a/b", "one /a/b"}, said{"find  /a", "one /a"}, said{"find * /a", "one /a"}, said{"find H /a", "one /a"},
		said{"route * /a three", "ok"}, said{"find h /a/b", "two /b"}, said{"find k /a/b", "three /b"}, said{"find  /a/b", "three /b"}, said{"find h /a//b", "two //b"}, said{"find h /a/b?c", "two /b?c"},
		said{"route h /a/b/ four", "ok"}, said{"find h /a/b", "two /b"}, said{"find h /a/b/", "four /"}, said{"find h /a/b/c", "four /c"},
	)
	play(t, said{"route h / one", "ok"}, said{"find h /a", "one /a"}, said{"find k /a", "ErrNone"}, said{"find  /a", "ErrNone"}, said{"find * /a", "ErrNone"}, said{"route  / two", "ok"}, said{"find h /a", "one /a"}, said{"find k /a", "two /a"}, said{"route * / three", "ErrClash"}, said{"find k /a", "two /a"})
}

// Behind each fault the routes are as they were.
func TestRouteWrong(t *testing.T) {
	for _, s := range []said{
		{"route h /a two", "ErrClash"}, {"route h /a one", "ErrClash"}, {"route * /b one", "ErrClash"}, {"route  /b two", "ErrClash"},
		{"route h a two", "ErrSyntax"}, {"route h * two", "ErrSyntax"}, {"route h  two", "ErrSyntax"}, {"route h /c ", "ErrSyntax"}, {"route h /c *", "ErrSyntax"}, {"route h /c a.b", "ErrSyntax"}, {"route h /c /two", "ErrSyntax"}, {"route h /c\t two", "ErrSyntax"}, {"route h\r /c two", "ErrSyntax"}, {"route ä /c two", "ErrSyntax"}, {"route h /ä two", "ErrSyntax"}, {"route h /c ä", "ErrSyntax"}, {"route h /c two\r", "ErrSyntax"},
		{"route " + xs(401) + " /c two", "ErrSyntax"}, {"route h /" + xs(400) + " two", "ErrSyntax"}, {"route h /c " + xs(401), "ErrSyntax"},
		{"route h /c", "bad"}, {"route h /c two ", "bad"}, {"route h /c two x", "bad"}, {"Route h /c two", "bad"}, {"route", "bad"},
	} {
		play(t,
			said{"route h /a one", "ok"}, said{"route * /b two", "ok"}, s,
			said{"find h /a/x", "one /x"}, said{"find k /b", "two /"}, said{"find h /c", "ErrNone"}, said{"find k /a", "ErrNone"},
			said{"route h /c three", "ok"}, said{"find h /c", "three /"}, said{"find h /a", "one /"}, said{"find h /b/c", "two /c"},
		)
	}
	alone(t, said{"route ** /* -", "ok"}, said{"route " + xs(400) + " /" + xs(399) + " " + xs(400), "ok"})
}

// The 21st route is one too many, whatever it is.
func TestRouteTooMany(t *testing.T) {
	var l []said
	for c := range 20 {
		l = append(l, said{"route * /" + string([]byte{byte('a' + c)}) + " one", "ok"})
	}
	l = append(l,
		said{"route * /u one", "ErrFull"}, said{"route * u one", "ErrFull"}, said{"route * /a one", "ErrFull"}, said{"route * /t", "bad"},
		said{"find h /a", "one /"}, said{"find h /t/u", "one /u"}, said{"find h /u", "ErrNone"}, said{"route h /u one", "ErrFull"}, said{"find h /u", "ErrNone"})
	play(t, l...)
}
