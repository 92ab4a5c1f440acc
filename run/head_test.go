package run

import (
	"strings"
	"testing"
)

// What is said has a number from then on, the newest the least one.
func TestSay(t *testing.T) {
	play(t,
		said{"say :method GET", "81"}, said{"say :path /", "83"}, said{"say server ", "8c"}, said{"say server x", "4c0178"}, said{"say server x", "8d"},
		said{"say a 1", "4001610131"}, said{"say a 1", "8d"}, said{"say server x", "8e"}, said{"say a 2", "4d0132"}, said{"say a 2", "8d"}, said{"say a 1", "8e"}, said{"say server x", "8f"},
		said{"say  ", "400000"}, said{"say  ", "8d"}, said{"say a ", "4e00"}, said{"say  1", "4e0131"}, said{"say a ", "8e"}, said{"say  1", "8d"},
		said{"say A 1", "4001410131"}, said{"say type text", "88"},
	)
	alone(t, said{"say a text", "40016183040581"}, said{"say \xff \x00", "4001ff0100"}, said{"say a=b ,", "4003613d62012c"}, said{"say length 20", "47023230"}, said{"say a " + strings.Repeat("~", 200), "4001617f49" + strings.Repeat("7e", 200)})
}

// Of too long a field nothing is said, and what is there stays.
func TestSayTooMuch(t *testing.T) {
	long := strings.Repeat("~", 400)
	play(t,
		said{"say a 1", "4001610131"},
		said{"say a " + long + "~", "ErrFull"}, said{"say a 1", "8d"},
		said{"say " + long + "~ 1", "ErrFull"}, said{"say a 1", "8d"},
		said{"say  " + long + "~", "ErrFull"}, said{"say a 1", "8d"},
	)
	alone(t,
		said{"say a " + xs(401), "ErrFull"}, said{"say " + xs(401) + " ", "ErrFull"},
		said{"say a " + long, "4001617f9102" + strings.Repeat("7e", 400)}, said{"say " + long + " a", "407f9102" + strings.Repeat("7e", 400) + "0161"},
	)
}

// The table of what is said has 200: a field of just that size stays, a greater one drives all away.
func TestSayTable(t *testing.T) {
	fits, over := strings.Repeat("~", 200-32-1), strings.Repeat("~", 200-32)
	play(t,
		said{"say a 1", "4001610131"}, said{"say a " + fits, "4d7f28" + strings.Repeat("7e", 167)}, said{"say a " + fits, "8d"},
		said{"say a 1", "4d0131"}, said{"say a " + over, "4d7f29" + strings.Repeat("7e", 168)}, said{"say a 1", "4001610131"}, said{"say a 1", "8d"},
	)
	// Five of 34 fit.
	play(t,
		said{"say a 1", "4001610131"}, said{"say b 1", "4001620131"}, said{"say c 1", "4001630131"}, said{"say d 1", "4001640131"}, said{"say e 1", "4001650131"}, said{"say a 1", "91"},
		said{"say f 1", "4001660131"}, said{"say b 1", "91"}, said{"say a 1", "4001610131"}, said{"say c 1", "91"}, said{"say b 1", "4001620131"},
	)
}

func TestHear(t *testing.T) {
	alone(t,
		said{"hear ", "-"}, said{"hear 20", "-"}, said{"hear 2020", "-"}, said{"hear 3f1d", "-"}, said{"hear 3fa901", "-"}, said{"hear 203fa901", "-"},
		said{"hear 81", ":method=GET"}, said{"hear 8182", ":method=GET :method=POST"}, said{"hear 84", ":host="}, said{"hear 8484", ":host= :host="}, said{"hear 2081", ":method=GET"},
		said{"hear 8143022f614401684003622d6304613b2062", ":method=GET :path=/a :host=h b-c=a; b"},
		said{"hear 4001610131", "a=1"}, said{"hear 4001610131be8d", "ErrNone"}, said{"hear 40016101318d", "a=1 a=1"}, said{"hear 40016101314d01328e8d", "a=1 a=2 a=1 a=2"},
		said{"hear 0001610131", "a=1"}, said{"hear 1001610131", "a=1"}, said{"hear 00016101318d", "ErrNone"}, said{"hear 10016101318d", "ErrNone"}, said{"hear 080178", "type=x"}, said{"hear 180178", "type=x"},
		said{"hear 000000", "="}, said{"hear 000000000000", "= ="}, said{"hear 00000131", "=1"}, said{"hear 00016100", "a="}, said{"hear 0001610000000081", "a= = :method=GET"},
		said{"hear 00013d013d", "==="}, said{"hear 0001200120", " = "}, said{"hear 0001ff0100", "\xff=\x00"}, said{"hear 00012d012d", "-=-"},
		said{"hear 40016183040581", "a=text"},
	)
	checkRun(t, "hear 00010a020a0a\nhear 81\n", "\n=\n\n\n:method=GET\n")
}

func TestHearWrong(t *testing.T) {
	forty := strings.Repeat("81", 40)
	for _, s := range []said{
		{"hear 80", "ErrNone"}, {"hear 8d", "ErrNone"}, {"hear 8180", "ErrNone"}, {"hear 4d0131", "ErrNone"}, {"hear 0d0131", "ErrNone"}, {"hear 40016101318e", "ErrNone"},
		{"hear 3faa01", "ErrRange"}, {"hear 3fe0ffffff07", "ErrRange"}, {"hear 203faa01", "ErrRange"}, {"hear 8120", "ErrState"}, {"hear 8120ff", "ErrState"},
		{"hear ff", "ErrShort"}, {"hear 40", "ErrShort"}, {"hear 4001", "ErrShort"}, {"hear 400161", "ErrShort"}, {"hear 40016102", "ErrShort"}, {"hear 4001610231", "ErrShort"}, {"hear 3f", "ErrShort"}, {"hear 81ff80", "ErrShort"},
		{"hear ff8000", "ErrSyntax"}, {"hear 400161810f", "ErrSyntax"}, {"hear 400161820403", "ErrSyntax"}, {"hear 00047465787400", "ErrSyntax"},
		{"hear ff8080808008", "ErrOver"}, {"hear 4001617f8080808008", "ErrOver"}, {"hear 4001617f9202", "ErrFull"}, {"hear 407f9202", "ErrFull"},
		{"hear " + forty + "81", "ErrFull"},
	} {
		play(t, s, said{"hear 81", "ErrState"}, said{"hear ", "ErrState"}, said{"hear zz", "bad"}, said{"hear", "bad"}, said{"hear 80", "ErrState"}, said{"say :method GET", "81"}, said{"say a 1", "4001610131"}, said{"say a 1", "8d"})
	}
	play(t, said{"hear " + forty, strings.TrimSuffix(strings.Repeat(":method=GET ", 40), " ")}, said{"hear 81", ":method=GET"})
	// 38 of 42, and one that makes it 2000, or 2001.
	ahead := strings.Repeat("81", 38)
	play(t, said{"hear " + ahead + "0001617ff401" + strings.Repeat("7e", 371), strings.Repeat(":method=GET ", 38) + "a=" + strings.Repeat("~", 371)}, said{"hear 81", ":method=GET"})
	play(t, said{"hear " + ahead + "0001617ff501" + strings.Repeat("7e", 372), "ErrFull"}, said{"hear 81", "ErrState"})
}

// The table of what is heard has 200, too, and a size ahead of the fields makes it less.
func TestHearTable(t *testing.T) {
	fits, over := strings.Repeat("~", 200-32-1), strings.Repeat("~", 200-32)
	play(t, said{"hear 4001617f28" + strings.Repeat("7e", 167), "a=" + fits}, said{"hear 8d", "a=" + fits}, said{"hear 4d0131", "a=1"}, said{"hear 8d", "a=1"}, said{"hear 8e", "ErrNone"})
	play(t, said{"hear 4001617f29" + strings.Repeat("7e", 168), "a=" + over}, said{"hear 8d", "ErrNone"})
	play(t, said{"hear 4001610131", "a=1"}, said{"hear 3fa901", "-"}, said{"hear 8d", "a=1"}, said{"hear 3f03", "-"}, said{"hear 8d", "a=1"}, said{"hear 3f02", "-"}, said{"hear 8d", "ErrNone"})
	play(t, said{"hear 20", "-"}, said{"hear 4001610131", "a=1"}, said{"hear 3fa901", "-"}, said{"hear 4001610131", "a=1"}, said{"hear 8d", "a=1"})
}
