package conn

import (
	"bytes"
	"fmt"
	"math/rand"
	"slices"
	"strings"
	"testing"

	"tollgate/api"
)

// D1: what a new one says, and that Out takes it away.
func TestFirstSaid(t *testing.T) {
	c := New()
	if b := c.Out(); !bytes.Equal(b, []byte{0, 0, 0, 4, 0, 0, 0, 0, 0}) {
		t.Errorf("said first: %v", b)
	}
	if b := c.Out(); len(b) != 0 || c.Over() {
		t.Errorf("said then: %v; over %v", b, c.Over())
	}
	// It stands ahead of all, whenever it is taken.
	late := talk{t, New()}
	late.hears("4/0/0/ 5/0/0/0102030405060708", "")
	late.said("4/0/0/ 4/1/0/ 5/1/0/0102030405060708")
	late.said("")
}

// script has frames of each Kind, and something wrong for a stream.
const script = "4/0/0/000400000fa0 1/0/1/4003 2/4/1/622d630161 0/0/1/*1024 200/7/5/*30 5/0/0/*8 1/5/3/8d 0/0/3/01 " +
	"7/0/0/00000100 0/1/1/*200 3/0/5/00000002 7/0/7/00000001"

const scriptTold = "Asked 1 0 [{b-c a}]; Came 1 0 *1024; Asked 3 0 [{b-c a}] end; Reset 3 5; Came 1 0 *200 end; Failed 0 1"

// D1: bytes all at once, one by one, and cut anywhere say the same.
func TestCut(t *testing.T) {
	b := bytesOf(t, script)
	whole := New()
	events := whole.Feed(b)
	said := whole.Out()
	if got := toldAll(events); got != scriptTold {
		t.Fatalf("all at once: %q", got)
	}
	fed := func(cuts []int) {
		t.Helper()
		c, from := New(), 0
		var l []api.Event
		var out []byte
		for _, to := range append(cuts, len(b)) {
			l = append(l, c.Feed(b[from:to])...)
			out = append(out, c.Out()...)
			from = to
		}
		if toldAll(l) != scriptTold || !sameBodies(l, events) || !bytes.Equal(out, said) || c.Over() != whole.Over() {
			t.Errorf("cut at %v: got %q, %d bytes go out", cuts, toldAll(l), len(out))
		}
	}
	var all []int
	for i := range b {
		all = append(all, i)
		fed([]int{i})
		fed([]int{i, i})
	}
	fed(all)
	dice := rand.New(rand.NewSource(1))
	for range 300 {
		cuts := []int{dice.Intn(len(b)), dice.Intn(len(b)), dice.Intn(len(b)), dice.Intn(len(b))}
		slices.Sort(cuts)
		fed(cuts)
	}
}

func sameBodies(a, b []api.Event) bool {
	return slices.EqualFunc(a, b, func(x, y api.Event) bool { return bytes.Equal(x.Body, y.Body) })
}

// D1: an event is told with the last byte of its frame, not ahead of it and not later.
func TestSoon(t *testing.T) {
	c := begun(t, "1/4/1/")
	for _, f := range []string{"0/1/1/*1024", "1/5/3/"} {
		b := bytesOf(t, f)
		for i := range b[1:] {
			if l := c.Feed(b[i : i+1]); len(l) != 0 {
				t.Fatalf("%s: told at byte %d", f, i)
			}
		}
		if l := c.Feed(b[len(b)-1:]); len(l) != 1 {
			t.Errorf("%s: told %d", f, len(l))
		}
	}
}

// D1: the first frame must be Set, whatever else is wrong with it, but for Read's errors.
func TestFirstFrame(t *testing.T) {
	for _, f := range []string{
		"0/0/1/", "1/5/1/", "2/4/1/", "3/0/1/00000001", "5/0/0/*8", "6/0/0/*8", "7/0/0/00000001", "8/0/0/", "255/0/0/",
		"5/0/0/*7", "3/0/1/", "7/0/0/", "6/0/0/00", "0/0/0/",
	} {
		c := fresh(t)
		c.hears(f+" 4/0/0/", "Failed 0 1")
		c.failed(0, api.CodeProto)
	}
	for _, f := range []string{"4/0/0/", set(api.SetWindow, 1), "4/254/0/"} {
		c := fresh(t)
		c.hears(f+" 1/5/1/", "Asked 1 0 end")
		c.said(setEnd)
	}
	c := fresh(t)
	c.hears("4/1/0/ 5/1/0/*8", "")
	c.said("")
	for f, code := range map[string]int{"4/0/1/": api.CodeProto, "4/0/0/00": api.CodeSize, "4/1/0/*6": api.CodeSize} {
		c := fresh(t)
		c.hears(f, fmt.Sprint("Failed 0 ", code))
		c.failed(0, code)
	}
	c = fresh(t)
	if got := toldAll(c.Feed([]byte{0, 4, 1, 5, 0, 0, 0, 0, 0})); got != "Failed 0 6" {
		t.Errorf("too great a first one: %q", got)
	}
	c.failed(0, api.CodeSize)
}

// D1: Read's errors, as soon as nine bytes are there.
func TestReadErrors(t *testing.T) {
	for _, x := range []struct {
		name string
		b    []byte
		code int
	}{
		{"one more than MaxFrame", []byte{0, 4, 1, 0, 0, 0, 0, 0, 1}, api.CodeSize},
		{"as many as three bytes tell", []byte{255, 255, 255, 0, 0, 0, 0, 0, 1}, api.CodeSize},
		{"Stream above MaxWord", []byte{0, 0, 0, 0, 0, 128, 0, 0, 0}, api.CodeProto},
		{"both", []byte{0, 4, 1, 0, 0, 128, 0, 0, 0}, api.CodeSize},
		{"of no Kind", []byte{0, 4, 1, 99, 0, 0, 0, 0, 0}, api.CodeSize},
		{"of no Kind, Stream above MaxWord", []byte{0, 0, 5, 99, 0, 255, 255, 255, 255}, api.CodeProto},
	} {
		c := begun(t, "1/5/3/")
		if l := c.Feed(x.b[:8]); len(l) != 0 || c.Over() {
			t.Errorf("%s: eight bytes: %q", x.name, toldAll(l))
		}
		if got, want := toldAll(c.Feed(x.b[8:])), fmt.Sprint("Failed 0 ", x.code); got != want {
			t.Errorf("%s: got %q, want %q", x.name, got, want)
		}
		c.failed(3, x.code)
	}
	// Within a head that is not whole they are told ahead of what is out of turn.
	c := begun(t, "1/0/1/")
	if got := toldAll(c.Feed([]byte{0, 4, 1, 5, 0, 0, 0, 0, 0})); got != "Failed 0 6" {
		t.Errorf("within a head: %q", got)
	}
}

// D1: what Check says, with its code, and ahead of all that a Kind asks.
func TestCheckErrors(t *testing.T) {
	for f, code := range map[string]int{
		"0/0/0/": api.CodeProto, "1/4/0/": api.CodeProto, "2/4/0/": api.CodeProto, "3/0/0/00000001": api.CodeProto,
		"4/0/1/": api.CodeProto, "5/0/1/*8": api.CodeProto, "6/0/1/*8": api.CodeProto,
		"3/0/1/": api.CodeSize, "3/0/1/000000": api.CodeSize, "3/0/1/0000000001": api.CodeSize, "3/0/9/": api.CodeSize,
		"4/0/0/00": api.CodeSize, "4/0/0/*7": api.CodeSize, "4/1/0/*6": api.CodeSize,
		"5/0/0/*7": api.CodeSize, "5/1/0/*9": api.CodeSize, "6/0/0/*7": api.CodeSize,
		"7/0/0/": api.CodeSize, "7/0/9/*3": api.CodeSize, "7/0/0/*5": api.CodeSize,
		"7/0/0/00000000": api.CodeProto, "7/0/1/00000000": api.CodeProto, "7/0/1/80000000": api.CodeProto,
		set(api.SetWindow, 1<<31):                     api.CodeFlow,
		set(api.SetFrame, 1023):                       api.CodeProto,
		set(api.SetTable, 0, api.SetWindow, 1<<32-1):  api.CodeFlow,
		set(api.SetFrame, 1024, api.SetFrame, 0):      api.CodeProto,
		set(api.SetWindow, 1<<31-1, api.SetFrame, 99): api.CodeProto,
	} {
		c := begun(t, "1/4/1/")
		c.hears(f+" 5/0/0/*8", fmt.Sprint("Failed 0 ", code))
		c.failed(1, code)
	}
	// Within a head that is not whole too.
	c := begun(t, "1/0/1/")
	c.hears("5/0/0/*7", "Failed 0 6")
	c.failed(0, api.CodeSize)
}

// D1: a head in as many frames as may be, cut anywhere.
func TestHeadFrames(t *testing.T) {
	const want = "Asked 1 0 [{b-c a}] end"
	for n := 1; n <= 16; n++ {
		pieces := make([]string, n)
		pieces[n/2] = added
		l := []string{}
		for i, p := range pieces {
			kind, flags := api.More, 0
			if i == 0 {
				kind, flags = api.Head, api.End
			}
			if i == n-1 {
				flags |= api.Whole
			}
			l = append(l, fmt.Sprintf("%d/%d/1/%s", kind, flags, p))
		}
		c := begun(t, "")
		c.hears(strings.Join(l, " "), want)
		c.hears("1/5/3/8d", "Asked 3 0 [{b-c a}] end")
		c.said("")
	}
	for i := 0; i <= len(added); i += 2 {
		c := begun(t, "")
		c.hears("1/1/1/"+added[:i], "")
		c.hears("2/0/1/", "")
		c.hears("2/4/1/"+added[i:], want)
	}
	// Only the Head's End counts.
	begun(t, "").hears("1/0/1/ 2/1/1/ 2/5/1/", "Asked 1 0")
	begun(t, "").hears("1/1/1/ 2/4/1/", "Asked 1 0 end")
}

// D1: sixteen frames of a head, and a seventeenth.
func TestHeadFull(t *testing.T) {
	fifteen := "1/0/1/" + strings.Repeat(" 2/0/1/", 14)
	begun(t, "").hears(fifteen+" 2/4/1/", "Asked 1 0")
	for _, f := range []string{"2/4/1/", "2/0/1/"} {
		c := begun(t, "")
		c.hears(fifteen+" 2/0/1/", "")
		if c.Over() {
			t.Error("sixteen are too many")
		}
		c.hears(f, "Failed 0 1")
		c.failed(0, api.CodeProto)
	}
	// The next head is counted anew.
	begun(t, "").hears(fifteen+" 2/4/1/ "+fifteen+" 2/5/1/", "Asked 1 0; Asked 1 0")
}

// D1: what may not stand between the frames of a head, and More that follows nothing.
func TestOutOfTurn(t *testing.T) {
	for _, f := range []string{
		"0/0/1/", "1/4/1/", "1/0/1/", "1/4/3/", "2/4/3/", "2/0/3/", "3/0/1/00000001", "4/0/0/", "4/1/0/", "5/0/0/*8", "5/1/0/*8",
		"6/0/0/*8", "7/0/0/00000001", "7/0/1/00000001", "8/0/1/", "255/4/1/",
	} {
		for _, begin := range []string{"1/0/1/", "1/1/1/ 2/0/1/"} {
			c := begun(t, begin)
			c.hears(f+" 2/4/1/", "Failed 0 1")
			c.failed(0, api.CodeProto)
		}
	}
	for begin, last := range map[string]int{"": 0, "1/4/1/": 1, "1/0/1/ 2/4/1/": 1, "1/4/1/ 0/0/1/ff": 1, "9/0/1/": 0} {
		for _, f := range []string{"2/0/1/", "2/4/1/", "2/4/3/"} {
			c := begun(t, begin)
			c.hears(f, "Failed 0 1")
			c.failed(last, api.CodeProto)
		}
	}
}

// D1: of no Kind of api: passed over, whatever it is of.
func TestNoKind(t *testing.T) {
	c := begun(t, "1/4/1/")
	for kind := 8; kind < 256; kind++ {
		c.hears(fmt.Sprintf("%d/0/0/ %d/255/1/*1024 %d/5/2/ %d/1/2147483647/*5", kind, kind, kind, kind), "")
	}
	c.hears("1/5/3/", "Asked 3 0 end")
	c.said("")
}

// D1: Feed of nothing is nothing.
func TestFeedNothing(t *testing.T) {
	c := fresh(t)
	if l := c.Feed(nil); len(l) != 0 {
		t.Error(toldAll(l))
	}
	c.hears("", "")
	c.hears("4/0/0/", "")
	c.said(setEnd)
}
