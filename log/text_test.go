package log

import (
	"strconv"
	"strings"
	"testing"

	"tollgate/api"
)

func TestPrint(t *testing.T) {
	checkBoth(t, api.Entry{Time: 12, Code: 500, Bytes: 8, Took: 3, Method: "GET", Path: "/c"}, "12 500 8 3 GET /c")
	checkBoth(t, api.Entry{Time: 0, Code: 100, Bytes: 0, Took: 0, Method: "0", Path: "0"}, "0 100 0 0 0 0")
	checkBoth(t, api.Entry{Time: mostTime, Code: 599, Bytes: mostTime, Took: mostTime, Method: "x-Y_3", Path: "~!\"?a=b&c%20#"}, "1000000 599 1000000 1000000 x-Y_3 ~!\"?a=b&c%20#")
	checkBoth(t, api.Entry{Time: 1, Code: 234, Bytes: 5, Took: 6, Method: "7", Path: "8"}, "1 234 5 6 7 8")
}

func TestPrintNumbers(t *testing.T) {
	for _, n := range counts {
		s := strconv.Itoa(n)
		checkBoth(t, api.Entry{Time: n, Code: 200, Bytes: 2, Took: 3, Method: "M", Path: "/"}, s+" 200 2 3 M /")
		checkBoth(t, api.Entry{Time: 1, Code: 200, Bytes: n, Took: 3, Method: "M", Path: "/"}, "1 200 "+s+" 3 M /")
		checkBoth(t, api.Entry{Time: 1, Code: 200, Bytes: 2, Took: n, Method: "M", Path: "/"}, "1 200 2 "+s+" M /")
	}
	for _, n := range codes {
		checkBoth(t, api.Entry{Time: 1, Code: n, Bytes: 2, Took: 3, Method: "M", Path: "/"}, "1 "+strconv.Itoa(n)+" 2 3 M /")
	}
}

func TestPrintWrong(t *testing.T) {
	for _, f := range faults() {
		refusePrint(t, f.e, f.told)
	}
}

// Each byte, at each place of Method and Path.
func TestEachByte(t *testing.T) {
	for c := range 256 {
		s := one(c)
		token, path := strings.Contains(tokenBytes, s), c > 32 && c < 127
		for _, p := range []string{s, s + "x", "x" + s, "x" + s + "x", xs(mostText-1) + s, s + xs(mostText-1)} {
			checkTexts(t, p, "/", token)
			checkTexts(t, "M", p, path)
		}
	}
}

// checkTexts asks whether an entry may have that Method and that Path.
func checkTexts(t *testing.T, method, path string, may bool) {
	t.Helper()
	e, text := api.Entry{Time: 1, Code: 200, Bytes: 2, Took: 3, Method: method, Path: path}, "1 200 2 3 "+method+" "+path
	if may {
		checkBoth(t, e, text)
		return
	}
	refusePrint(t, e, api.ErrSyntax)
	refuseParse(t, text)
}

func TestLongest(t *testing.T) {
	for _, n := range []int{1, 2, mostText - 1, mostText, mostText + 1, mostText + 2, 2 * mostText, 1 << 20} {
		checkTexts(t, xs(n), "/", n <= mostText)
		checkTexts(t, "M", xs(n), n <= mostText)
	}
	checkTexts(t, xs(mostText), xs(mostText), true)
}

func TestParseNumbers(t *testing.T) {
	wrong := []string{"", "00", "01", "0200", "+0", "+1", "+200", "-0", "-1", "-200", "x", "1x", "x1", "0x1", "1_0", "2_00", "1.0", "1e2", "٣", "１", "\t200", "200\t", "200\n", "99999999999999999999", "-99999999999999999999", "18446744073709551816", strings.Repeat("9", 1<<16), strings.Repeat("0", 1<<16) + "200"}
	for _, n := range noCounts {
		wrong = append(wrong, strconv.Itoa(n))
	}
	for _, s := range wrong {
		refuseParse(t, s+" 200 2 3 M /")
		refuseParse(t, "1 200 "+s+" 3 M /")
		refuseParse(t, "1 200 2 "+s+" M /")
		refuseParse(t, "1 "+s+" 2 3 M /")
	}
	for _, n := range noCodes {
		refuseParse(t, "1 "+strconv.Itoa(n)+" 2 3 M /")
	}
	for _, s := range []string{"0100", "0599", "100.", "1e2", " 100"} {
		refuseParse(t, "1 "+s+" 2 3 M /")
	}
}

func TestParseTexts(t *testing.T) {
	for _, s := range noMethods {
		refuseParse(t, "1 200 2 3 "+s+" /")
	}
	for _, s := range noPaths {
		refuseParse(t, "1 200 2 3 M "+s)
	}
}

func TestParseParts(t *testing.T) {
	right := strings.Split("1 200 2 3 M /", " ")
	for n := range right {
		// Too few: the first ones, the last ones, and all but one.
		refuseParse(t, strings.Join(right[:n], " "))
		refuseParse(t, strings.Join(right[n+1:], " "))
		refuseParse(t, strings.Join(append(append([]string{}, right[:n]...), right[n+1:]...), " "))
		// One twice: too many.
		refuseParse(t, strings.Join(append(append([]string{}, right[:n+1]...), right[n:]...), " "))
	}
	for _, s := range []string{"", " ", "     ", "      ", strings.Repeat(" ", 1<<16), "1 200 2 3 M / ", "1 200 2 3 M / x", "1 200 2 3 M / /", "0 1 200 2 3 M /", "1 200 2 3 M", "1 200 2 3 M ", "1 200 2 3  /", "1 200 2 M /", "M / 1 200 2 3", "200 1 2 3 M /"} {
		refuseParse(t, s)
	}
}

// Another blank ahead, behind or between; another byte for one.
func TestParseBlanks(t *testing.T) {
	text := "1 200 2 3 M /"
	for i := range len(text) + 1 {
		refuseParse(t, text[:i]+" "+text[i:])
		refuseParse(t, text[:i]+"\t"+text[i:])
		refuseParse(t, text[:i]+"\n"+text[i:])
		refuseParse(t, text[:i]+"\u00a0"+text[i:])
		if i < len(text) && text[i] == ' ' {
			for _, other := range []string{"", "\t", "\n", ",", "\x00", "\u00a0", "  "} {
				refuseParse(t, text[:i]+other+text[i+1:])
			}
		}
	}
}
