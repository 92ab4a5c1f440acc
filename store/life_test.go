package store

import (
	"strconv"
	"strings"
	"testing"

	"tollgate/api"
)

func cached(values ...string) api.Reply {
	a := api.Reply{Code: 200}
	for _, v := range values {
		a.Fields = append(a.Fields, api.Field{Name: "cache", Value: v})
	}
	return a
}

func TestLife(t *testing.T) {
	checkLife(t, cached("none"), 0)
	checkLife(t, cached("max-0"), 0)
	for _, n := range []int{1, 2, 5, 9, 10, 11, 99, 100, 101, 4096, 65536, 99_999, 100_000, mostTime - 1, mostTime} {
		checkLife(t, cached("max-"+strconv.Itoa(n)), n)
	}
	for n := range 2000 {
		checkLife(t, cached("max-"+strconv.Itoa(n)), n)
	}
}

func TestLifeWithoutField(t *testing.T) {
	checkLife(t, api.Reply{}, 0)
	checkLife(t, api.Reply{Code: 200}, 0)
	checkLife(t, api.Reply{Code: 200, Fields: []api.Field{}}, 0)
	checkLife(t, api.Reply{Code: 200, Body: []byte("cache: max-5")}, 0)
	for _, name := range []string{"", "Cache", "CACHE", "cach", "cache ", " cache", "caches", "vary", "max-5"} {
		checkLife(t, api.Reply{Code: 200, Fields: list(name, "max-5")}, 0)
	}
	checkLife(t, api.Reply{Code: 200, Fields: list("type", "cache", "max-5", "max-5", "age", "max-7")}, 0)
}

// Of two the first says it, be it right or wrong, wherever it stands.
func TestLifeOfTwo(t *testing.T) {
	checkLife(t, cached("max-5", "max-7"), 5)
	checkLife(t, cached("max-7", "max-5"), 7)
	checkLife(t, cached("max-5", "none"), 5)
	checkLife(t, cached("max-5", "x"), 5)
	for _, first := range []string{"none", "max-0", "", "x", "max-", "max-05", "max-1000001"} {
		checkLife(t, cached(first, "max-5"), 0)
		checkLife(t, cached(first, "max-5", "max-5"), 0)
	}
	for _, pairs := range [][]string{
		{"a", "1", "cache", "max-5", "cache", "max-7"},
		{"cache", "max-5", "a", "1", "cache", "max-7"},
		{"Cache", "max-9", "vary", "max-8", "cache", "max-5", "cache", "none"},
	} {
		checkLife(t, api.Reply{Code: 200, Fields: list(pairs...)}, 5)
	}
}

func TestLifeOfWrongTexts(t *testing.T) {
	for _, digits := range []string{
		"", "00", "01", "05", "007", "0000000", "01000000", "00000000000000000005",
		"+5", "-5", "+0", "-0", "--5", "-1", "+", "-", "5-", "5+",
		"x", "5x", "x5", "5 ", " 5", "5 5", "5.0", "5,0", "1_000", "1e3", "0x5", "0b1", "0o7", "5\n", "5\r\n", "5\x00", "\x005", "٣", "5, none", "5, max-7", "max-5",
		"1000001", "1000002", "1000010", "1999999", "2000000", "9999999", "10000000",
		"2147483647", "4294967296", "4294967301", "9223372036854775807", "9223372036854775808", "18446744073709551616", "18446744073709551621", "-9223372036854775808", "99999999999999999999999999",
		strings.Repeat("0", 1000), strings.Repeat("1", 1000), strings.Repeat("0", 1000) + "5",
	} {
		checkLife(t, cached("max-"+digits), 0)
	}
	for _, value := range []string{"", " ", "5", "max", "max5", "max=5", "max 5", "max_5", "Max-5", "MAX-5", "mAx-5", " max-5", "max -5", "xmax-5", "max-max-5", "-5", "ma-5", "NONE", "none ", "none-5", "none, max-5", "max-5, none", "min-5", "\x00max-5"} {
		checkLife(t, cached(value), 0)
	}
}

// Each byte in the place of a digit, and of each byte ahead of the digits.
func TestLifeOfEachByte(t *testing.T) {
	for c := range 256 {
		digit := c >= '0' && c <= '9'
		for _, p := range []struct {
			value string
			right bool
		}{
			{"max-" + one(c), digit},
			{"max-1" + one(c), digit},
			{"max-" + one(c) + "1", digit && c != '0'},
			{"max-1" + one(c) + "1", digit},
			{"max-99999" + one(c), digit},
			{"max-100000" + one(c), c == '0'},
			{one(c) + "ax-1", c == 'm'},
			{"m" + one(c) + "x-1", c == 'a'},
			{"ma" + one(c) + "-1", c == 'x'},
			{"max" + one(c) + "1", c == '-'},
		} {
			want := 0
			if p.right {
				want, _ = strconv.Atoi(p.value[4:])
			}
			checkLife(t, cached(p.value), want)
		}
	}
}

// It is the field alone that says it.
func TestLifeOfAnyReply(t *testing.T) {
	for _, code := range []int{-1, 0, 1, 99, 100, 199, 201, 204, 304, 404, 500, 599, 600, 1 << 62} {
		a := cached("max-5")
		a.Code = code
		checkLife(t, a, 5)
		a.Body = []byte(xs(9000))
		checkLife(t, a, 5)
	}
	s := New()
	for _, method := range otherMethods {
		r, a := get("h", "/a"), cached("max-5")
		r.Method = method
		refusePut(t, s, r, a, 0, api.OK)
		checkLife(t, a, 5)
	}
	many := append(make([]api.Field, 1<<16), list("cache", "max-5", "cache", "max-6")...)
	checkLife(t, api.Reply{Fields: many}, 5)
}
