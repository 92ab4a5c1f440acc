package store

import (
	"strings"
	"testing"
)

func vary(value string) []string { return []string{"vary", value} }

func TestFitHostAndPath(t *testing.T) {
	texts := []string{"", "/", "/a", "/a/", "/a/b", "/A", "a", "/a ", "/a?x", "/a\x00", "h", "H", "h:80", "h "}
	for _, a := range texts {
		for _, b := range texts {
			checkFit(t, nil, get("h", a), get("h", b), a == b)
			checkFit(t, nil, get(a, "/"), get(b, "/"), a == b)
			checkFit(t, nil, get(a, b), get(b, a), a == b)
			checkFit(t, vary("x"), get(a, "/a", "x", "1"), get(b, "/a", "x", "1"), a == b)
		}
	}
	// Nor do the bytes of both together say it.
	checkFit(t, nil, get("h/a", "/b"), get("h", "/a/b"), false)
	checkFit(t, nil, get("", "h/a"), get("h", "/a"), false)
}

// Without vary neither fields nor the body matter.
func TestFitWithoutVary(t *testing.T) {
	requests := [][]string{nil, {"a", "1"}, {"a", "2"}, {"a", "1", "a", "2"}, {"vary", "a"}, {"", ""}, {"b", "1", "a", "1"}}
	for _, v := range [][]string{nil, vary(""), {"Vary", "a"}, {"vary ", "a"}, {"a", "a"}, {"cache", "a"}} {
		for _, a := range requests {
			for _, b := range requests {
				r := get("h", "/a", b...)
				r.Body = []byte("body")
				checkFit(t, v, get("h", "/a", a...), r, true)
			}
		}
	}
}

func TestFitByOneName(t *testing.T) {
	for _, c := range []struct {
		a, b []string
		want bool
	}{
		{nil, nil, true},
		{[]string{"x", "1"}, []string{"x", "1"}, true},
		{[]string{"x", "1"}, []string{"x", "2"}, false},
		{[]string{"x", "1"}, []string{"x", "1 "}, false},
		{[]string{"x", "a"}, []string{"x", "A"}, false},
		// One that is there, though it is empty, and one that is not.
		{[]string{"x", "1"}, nil, false},
		{[]string{"x", ""}, nil, false},
		{[]string{"x", ""}, []string{"x", ""}, true},
		{[]string{"x", ""}, []string{"x", "", "x", ""}, false},
		{nil, []string{"y", "1"}, true},
		{[]string{"y", "2"}, []string{"y", "1"}, true},
		// Names are the same by their bytes.
		{[]string{"X", "1"}, []string{"X", "2"}, true},
		{[]string{"x", "1"}, []string{"X", "1"}, false},
		{[]string{"x ", "1"}, nil, true},
		{[]string{"xx", "1"}, nil, true},
		{[]string{"", "1"}, nil, true},
		// All with that name, in order.
		{[]string{"x", "1", "x", "2"}, []string{"x", "1", "x", "2"}, true},
		{[]string{"x", "1", "x", "2"}, []string{"x", "2", "x", "1"}, false},
		{[]string{"x", "1", "x", "2"}, []string{"x", "1"}, false},
		{[]string{"x", "1", "x", "2"}, []string{"x", "2"}, false},
		{[]string{"x", "1", "x", "1"}, []string{"x", "1"}, false},
		{[]string{"x", "1", "x", "2", "x", "1"}, []string{"x", "1", "x", "1", "x", "2"}, false},
		{[]string{"x", "1", "x", "2"}, []string{"x", "12"}, false},
		{[]string{"x", "1", "x", "2"}, []string{"x", "1, 2"}, false},
		{[]string{"x", "1", "x", ""}, []string{"x", "", "x", "1"}, false},
		// Others between and around them do not matter.
		{[]string{"x", "1", "x", "2"}, []string{"y", "0", "x", "1", "y", "1", "x", "2", "z", "3"}, true},
		{[]string{"y", "5", "x", "1"}, []string{"x", "1", "y", "6"}, true},
	} {
		for _, v := range []string{"x", "x, x", "x, x, x"} {
			checkFit(t, vary(v), get("h", "/a", c.a...), get("h", "/a", c.b...), c.want)
			checkFit(t, vary(v), get("h", "/a", c.b...), get("h", "/a", c.a...), c.want)
		}
	}
}

func TestFitBySeveralNames(t *testing.T) {
	for _, c := range []struct {
		a, b []string
		want bool
	}{
		{nil, nil, true},
		{[]string{"x", "1", "y", "2"}, []string{"x", "1", "y", "2"}, true},
		{[]string{"x", "1", "y", "2"}, []string{"x", "1", "y", "3"}, false},
		{[]string{"x", "1", "y", "2"}, []string{"x", "3", "y", "2"}, false},
		{[]string{"x", "1", "y", "2"}, []string{"x", "2", "y", "1"}, false},
		{[]string{"x", "1", "y", "2"}, []string{"x", "1"}, false},
		{[]string{"x", "1", "y", "2"}, []string{"y", "2"}, false},
		{[]string{"x", "1"}, []string{"y", "1"}, false},
		{[]string{"x", "1", "x", "2"}, []string{"x", "1", "y", "2"}, false},
		{[]string{"x", "1", "y", "2", "z", "3"}, []string{"x", "1", "y", "2"}, true},
		// How those of two names stand to each other does not matter.
		{[]string{"x", "1", "y", "2"}, []string{"y", "2", "x", "1"}, true},
		{[]string{"x", "1", "y", "2", "x", "3", "y", "4"}, []string{"y", "2", "y", "4", "x", "1", "x", "3"}, true},
		{[]string{"x", "1", "y", "2", "x", "3", "y", "4"}, []string{"y", "4", "y", "2", "x", "1", "x", "3"}, false},
		{[]string{"x", "1", "y", "2", "x", "3", "y", "4"}, []string{"y", "2", "y", "4", "x", "3", "x", "1"}, false},
		{[]string{"x", "1", "y", "2", "x", "3", "y", "4"}, []string{"x", "2", "y", "1", "x", "4", "y", "3"}, false},
	} {
		for _, v := range []string{"x, y", "y, x", "x, y, x", "w, x, y", "x, , y", "x, a b, y", ", x, y, "} {
			checkFit(t, vary(v), get("h", "/a", c.a...), get("h", "/a", c.b...), c.want)
			checkFit(t, vary(v), get("h", "/a", c.b...), get("h", "/a", c.a...), c.want)
		}
	}
}

// A piece that is no Token names nothing, though a field has that name; those beside it do.
func TestFitByNoToken(t *testing.T) {
	for _, piece := range []string{"", " ", "*", "x ", " x", "x y", "x,y", "x,", ",x", ",", "x;y", "x.y", ":x", "x\t", "\tx", "x\r\n", "x\x00", "\x7f", "ä", "(x)", "\"x\"", "x=1", "/", strings.Repeat("x", mostText+1)} {
		one, other := get("h", "/a", piece, "1"), get("h", "/a", piece, "2")
		checkFit(t, vary(piece), one, other, true)
		checkFit(t, vary(piece), get("h", "/a", "x", "1", "y", "1"), get("h", "/a", "x", "2", "y", "2"), true)
		for _, value := range []string{piece + ", z", "z, " + piece, "z, " + piece + ", z", piece + ", z, " + piece} {
			checkFit(t, vary(value), get("h", "/a", piece, "1", "z", "3"), get("h", "/a", piece, "2", "z", "3"), true)
			checkFit(t, vary(value), get("h", "/a", piece, "1", "z", "3"), get("h", "/a", piece, "1", "z", "4"), false)
		}
	}
	// What stands between is a comma and one blank.
	for _, value := range []string{"x,y", "x ,y", "x;y", "x y", "x\ty", "x,\ty", "x,\r\ny", "x,,y"} {
		checkFit(t, vary(value), get("h", "/a", "x", "1", "y", "1"), get("h", "/a", "x", "2", "y", "2"), true)
	}
	for _, value := range []string{"x,  y", "x,  y, ", "x, y ", "x, y,", ", x", "x, ", "x, , "} {
		checkFit(t, vary(value), get("h", "/a", "x", "1", "y", "1"), get("h", "/a", "x", "2", "y", "1"), false)
		checkFit(t, vary(value), get("h", "/a", "x", "1", "y", "1"), get("h", "/a", "x", "1", "y", "2"), true)
	}
	for _, value := range []string{"x ,  y", "x ,, y", "x , y", "x,, y", "x,y, y"} {
		want := !strings.HasSuffix(value, ", y") // else a comma and one blank stand ahead of y
		checkFit(t, vary(value), get("h", "/a", "x", "1", "y", "1"), get("h", "/a", "x", "2", "y", "1"), true)
		checkFit(t, vary(value), get("h", "/a", "x", "1", "y", "1"), get("h", "/a", "x", "1", "y", "2"), want)
	}
}

// Each byte as a name, and in one.
func TestFitByEachByte(t *testing.T) {
	for c := range 256 {
		token := strings.Contains(tokenBytes, one(c))
		for _, name := range []string{one(c), "n" + one(c), one(c) + "n", "n" + one(c) + "n"} {
			checkFit(t, vary(name), get("h", "/a", name, "1"), get("h", "/a", name, "2"), !token)
			checkFit(t, vary(name), get("h", "/a", name, "1"), get("h", "/a", name, "1"), true)
		}
	}
	for n := mostText - 2; n < mostText+3; n++ {
		checkFit(t, vary(xs(n)), get("h", "/a", xs(n), "1"), get("h", "/a", xs(n), "2"), n > mostText)
		checkFit(t, vary("a, "+xs(n)), get("h", "/a", xs(n), "1"), get("h", "/a", xs(n), "2"), n > mostText)
	}
}

// Of several the first vary says it.
func TestFitByFirstVary(t *testing.T) {
	a, b, c := get("h", "/a", "x", "1", "y", "1"), get("h", "/a", "x", "2", "y", "1"), get("h", "/a", "x", "1", "y", "2")
	two := []string{"vary", "x", "vary", "y"}
	checkFit(t, two, a, b, false)
	checkFit(t, two, a, c, true)
	for _, none := range []string{"", "*", "x y"} {
		checkFit(t, []string{"vary", none, "vary", "x"}, a, b, true)
	}
	checkFit(t, []string{"type", "y", "Vary", "y", "vary", "x", "vary", "y"}, a, c, true)
}

// The names of a request's own, and fields that are named as what a Store reads, are names as others.
func TestFitByOwnNames(t *testing.T) {
	for _, name := range []string{"vary", "cache", "host", "path", "method", "Vary", "-", "_", "0"} {
		checkFit(t, vary(name), get("h", "/a", name, "1"), get("h", "/a", name, "2"), false)
		checkFit(t, vary(name), get("h", "/a", name, "1"), get("h", "/a", name, "1"), true)
		checkFit(t, vary(name), get("h", "/a"), get("h", "/a"), true)
	}
}

// The vary of what is kept says whether it fits, and not that of the new one.
func TestFitByVaryThatIsKept(t *testing.T) {
	one, other := get("h", "/a", "x", "1"), get("h", "/a", "x", "2")
	s := New()
	put(t, s, one, told("by x", 9, "vary", "x"), 0)
	put(t, s, other, told("by none", 9), 0)
	checkLen(t, s, 2)
	// That without vary fits both, and was put last.
	checkGet(t, s, one, 1, told("by none", 9), 1)
	checkGet(t, s, other, 1, told("by none", 9), 1)

	s = New()
	put(t, s, one, told("by none", 9), 0)
	put(t, s, other, told("by x", 9, "vary", "x"), 0)
	checkLen(t, s, 1)
	checkNone(t, s, one, 1)
	checkGet(t, s, other, 1, told("by x", 9, "vary", "x"), 1)

	s = New()
	put(t, s, get("h", "/a", "x", "1", "y", "1"), told("by x", 9, "vary", "x"), 0)
	put(t, s, get("h", "/a", "x", "1", "y", "2"), told("by y", 9, "vary", "y"), 0)
	checkLen(t, s, 1)
	checkNone(t, s, get("h", "/a", "x", "1", "y", "1"), 1)
	checkGet(t, s, get("h", "/a", "x", "3", "y", "2"), 1, told("by y", 9, "vary", "y"), 1)
}

// Lists and texts that are great.
func TestFitOfGreatLists(t *testing.T) {
	var pairs, turned []string
	for i := range 1 << 15 {
		x, y := one('a'+i%26), one('a'+i%25)
		pairs = append(pairs, "x", x, "y", y)
		turned = append(turned, "y", y, "x", x)
	}
	all := "x" + strings.Repeat(", y, x", 1<<15)
	checkFit(t, vary(all), get("h", "/a", pairs...), get("h", "/a", turned...), true)
	checkFit(t, vary(all), get("h", "/a", pairs...), get("h", "/a", pairs[4:]...), false)
	checkFit(t, vary("x"), get("h", "/a", pairs...), get("h", "/a", pairs[2:]...), false)
	checkFit(t, vary("y"), get("h", "/a", pairs...), get("h", "/a", pairs[2:]...), true)
	checkFit(t, vary(strings.Repeat(", ", 1<<15)), get("h", xs(1<<20)), get("h", xs(1<<20)), true)
	checkFit(t, vary(xs(1<<20)), get(xs(1<<20), "/a"), get(xs(1<<20)+"x", "/a"), false)
}
