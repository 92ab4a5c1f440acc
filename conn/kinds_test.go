package conn

import (
	"fmt"
	"strings"
	"testing"

	"tollgate/api"
)

// D2: heads that open a stream, and those of one that is open.
func TestHeads(t *testing.T) {
	for _, x := range []struct{ frames, events string }{
		{"1/4/1/81", "Asked 1 0 [{:method GET}]"},
		{"1/5/1/81", "Asked 1 0 [{:method GET}] end"},
		{"1/5/2147483647/", "Asked 2147483647 0 end"},
		{"1/4/1/ 1/4/1/81", "Asked 1 0; Asked 1 0 [{:method GET}]"},
		{"1/4/1/ 1/5/1/81", "Asked 1 0; Asked 1 0 [{:method GET}] end"},
		{"1/4/1/ 1/4/1/ 1/5/1/ 0/0/1/", "Asked 1 0; Asked 1 0; Asked 1 0 end; Reset 1 5"},
		{"1/4/1/ 1/4/5/ 1/4/1/", "Asked 1 0; Asked 5 0; Asked 1 0"},
		{"1/5/1/ 1/4/1/", "Asked 1 0 end; Reset 1 5"},
		{"1/4/2/", "Failed 0 1"},
		{"1/4/5/ 1/4/3/", "Asked 5 0; Failed 0 5"}, // it was passed over, and is Closed
		{"1/4/5/ 1/4/4/", "Asked 5 0; Failed 0 1"},
		{"1/4/1/ 3/0/1/00000000 1/4/1/", "Asked 1 0; Reset 1 0; Failed 0 5"},
	} {
		begun(t, "").hears(x.frames, x.events)
	}
}

// D2: a head when we have ended: the other side may speak on.
func TestHeadsTheirs(t *testing.T) {
	c := begun(t, "1/4/1/")
	c.ok(c.Answer(1, nil, true))
	c.hears("1/4/1/ 0/0/1/ff 1/5/1/81", "Asked 1 0; Came 1 0 *1; Asked 1 0 [{:method GET}] end")
	c.hears("1/4/1/", "Failed 0 5")
}

// D2: fields that do not decode are wrong for all, ahead of what is wrong with the stream.
func TestHeadWrong(t *testing.T) {
	for _, begin := range []string{"", "1/4/1/", "1/5/1/", "1/4/1/ 3/0/1/00000001"} {
		for _, l := range []string{"80", "8d", "4001", "8120", "3fe21f", "400474657874"} {
			for _, id := range []int{1, 2, 7} {
				c := begun(t, begin)
				c.hears(fmt.Sprintf("1/4/%d/%s 1/4/9/", id, l), "Failed 0 9")
				c.failed(min(len(begin), 1), api.CodeHead)
			}
		}
	}
	c := begun(t, "")
	c.hears("1/0/1/8d", "") // not whole: it is not asked yet
	c.hears("2/4/1/", "Failed 0 9")
	c.failed(0, api.CodeHead)
	// MaxFields, and one more.
	begun(t, "").hears("1/4/1/"+strings.Repeat("84", 40), "Asked 1 0 ["+strings.TrimSpace(strings.Repeat("{:host } ", 40))+"]")
	begun(t, "").hears("1/4/1/"+strings.Repeat("84", 41), "Failed 0 9")
}

// D2: the table for what comes is of MaxTable, and one for all streams.
func TestHeadTable(t *testing.T) {
	c := begun(t, "")
	c.hears("1/5/1/3fe11f"+added+" 1/5/3/8d 1/0/5/8d 2/4/5/8d",
		"Asked 1 0 [{b-c a}] end; Asked 3 0 [{b-c a}] end; Asked 5 0 [{b-c a} {b-c a}]")
	c.hears("1/4/5/3fe21f", "Failed 0 9")
}

// D2: MaxStreams at once, and one more, which is refused; it counts as seen.
func TestHeadRefused(t *testing.T) {
	c := begun(t, "")
	for i := range api.MaxStreams {
		c.hears(fmt.Sprintf("1/%d/%d/", 4+i%2, 2*i+1), fmt.Sprint("Asked ", 2*i+1, " 0", []string{"", " end"}[i%2]))
	}
	c.said("")
	c.hears("1/5/33/"+added, "Reset 33 7")
	c.said(stop(33, api.CodeRefused))
	c.is(c.Answer(33, nil, true), api.ErrState)
	// What still comes of it is passed over.
	c.hears("0/0/33/ff 1/4/33/8d 3/0/33/00000001 7/0/33/7fffffff", "")
	c.hears("1/5/29/", "Asked 29 0 end")
	c.hears("3/0/1/00000000 1/5/35/8d", "Reset 1 0; Asked 35 0 [{b-c a}] end")
	c.said("")
	c.ok(c.Bye(0))
	c.said(bye(35, 0))
}

// D2: Data up to the window of the connection and of the stream, which begin alike.
func TestDataWindow(t *testing.T) {
	for _, x := range []struct{ begin, more, events string }{
		{data(1, 2000, false), "0/0/1/", "Came 1 0"},
		{data(1, 1999, false), "0/1/1/ff", "Came 1 0 *1 end"},
		{data(1, 2000, false), "0/0/1/ff", "Failed 0 3"},
		{data(1, 1999, false), "0/0/1/ffff", "Failed 0 3"},
		{data(1, 1000, false), "0/0/3/*1000", "Came 3 0 *1000"},
		{data(1, 1000, false), "0/0/3/*1001", "Failed 0 3"},
		{data(1, 1000, true), "0/1/3/*1001", "Failed 0 3"},
	} {
		c := begun(t, "1/4/1/ 1/4/3/ "+x.begin)
		c.hears(x.more, x.events)
		if c.Over() {
			c.failed(3, api.CodeFlow)
		}
	}
}

// toldCame is what is told of data.
func toldCame(id, n int) string {
	var l []string
	for ; n > api.MaxFrame; n -= api.MaxFrame {
		l = append(l, fmt.Sprintf("Came %d 0 *%d", id, api.MaxFrame))
	}
	return strings.Join(append(l, fmt.Sprintf("Came %d 0 *%d", id, n)), "; ")
}

// D2: more than the stream's window has, when the connection's goes on: wrong for the stream.
func TestDataStream(t *testing.T) {
	for _, x := range []struct {
		more   int
		end    bool
		events string
	}{
		{0, false, "Came 1 0"},
		{1000, false, "Came 1 0 *1000"},
		{1000, true, "Came 1 0 *1000 end"},
		{1001, false, "Reset 1 3"},
		{1001, true, "Reset 1 3"},
	} {
		for _, ended := range []bool{false, true} {
			c := begun(t, "1/4/1/ 1/4/3/ "+data(1, 1000, false)+" "+data(3, 1000, false))
			if ended {
				c.ok(c.Answer(1, nil, true))
			}
			c.ok(c.Used(3, 1000))
			c.Out()
			c.ok(c.Used(1, 1))
			c.said(wide(0, 1001)) // of the streams less is due: 1 has 1000 left
			c.hears(data(1, x.more, x.end), x.events)
			if x.more > 1000 {
				c.said(stop(1, api.CodeFlow))
				c.is(c.Send(1, nil, true), api.ErrState)
				c.hears("0/0/1/ 1/4/1/ "+wide(1, api.MaxWindow), "")
			}
			// The connection's window was taken from in any case.
			if left := 1001 - x.more; left > 0 {
				c.hears(data(3, min(left, 1000), false), fmt.Sprintf("Came 3 0 *%d", min(left, 1000)))
			}
			c.said("")
		}
	}
	c := begun(t, "1/4/1/ 1/4/3/ "+data(1, 1000, false)+" "+data(3, 1000, false))
	c.ok(c.Used(3, 1000))
	c.ok(c.Used(1, 1))
	c.Out()
	c.hears("0/0/1/*1001", "Reset 1 3")
	c.said(stop(1, api.CodeFlow))
	c.hears("0/0/3/", "Came 3 0")
	c.hears("0/0/3/ff", "Failed 0 3")
	c.failed(3, api.CodeFlow)
}

// D2: Data in each state.
func TestDataStates(t *testing.T) {
	begun(t, "1/4/1/").hears("0/0/1/ 0/1/1/0102 0/0/1/", "Came 1 0; Came 1 0 *2 end; Reset 1 5")
	for begin, events := range map[string]string{
		"":                             "Failed 0 1",
		"1/5/1/":                       "Reset 1 5",
		"1/4/1/ 3/0/1/00000001":        "Failed 0 5",
		"1/4/3/":                       "Failed 0 5",
		"1/5/1/ 0/0/1/":                "",
		"1/5/1/ 1/5/1/ 3/0/1/00000001": "",
	} {
		begun(t, begin).hears("0/1/1/0102", events)
	}
	c := begun(t, "1/4/1/")
	c.ok(c.Send(1, nil, true))
	c.hears("0/0/1/ff 0/1/1/ 0/0/1/", "Came 1 0 *1; Came 1 0 end; Failed 0 5")
	c = begun(t, "1/5/1/")
	c.ok(c.Send(1, nil, true))
	c.hears("0/0/1/", "Failed 0 5")
	c = begun(t, "1/4/1/")
	c.hears("0/0/2/ff", "Failed 0 1")
}

// D2: Data that Hear does not take is no Data of the connection's window.
func TestDataNotTaken(t *testing.T) {
	c := begun(t, "1/5/1/ 1/4/3/")
	c.hears("0/0/1/*1000", "Reset 1 5")
	c.hears(data(3, 2000, false), toldCame(3, 2000))
	c.hears("0/0/3/ff", "Failed 0 3")
}

// D2: Stop of a stream in each state.
func TestStopHeard(t *testing.T) {
	for begin, events := range map[string]string{
		"":                      "Failed 0 1",
		"1/4/1/":                "Reset 1 4294967295",
		"1/5/1/":                "Reset 1 4294967295",
		"1/4/3/":                "", // passed over, and so Closed
		"1/4/1/ 3/0/1/00000000": "",
		"1/5/1/ 0/0/1/":         "",
	} {
		c := begun(t, begin)
		c.hears("3/0/1/ffffffff", events)
		if strings.HasPrefix(events, "Reset") {
			c.said("")
			c.is(c.Answer(1, nil, false), api.ErrState)
			c.hears("3/1/1/00000001 7/0/1/7fffffff", "")
			c.hears("0/0/1/", "Failed 0 5")
		}
	}
	c := begun(t, "1/4/1/")
	c.ok(c.Answer(1, nil, true))
	c.hears("3/0/1/00000007", "Reset 1 7")
	begun(t, "1/4/1/").hears("3/0/2/00000007", "Failed 0 1")
	begun(t, "1/4/1/").hears("3/255/1/80000000", "Reset 1 2147483648")
}

// D2: with Stop goes what waits of that stream, and of no other.
func TestStopHeardWaits(t *testing.T) {
	c := begun(t, "1/4/1/ 1/5/3/")
	c.ok(c.Send(1, some(2500), true))
	c.ok(c.Send(3, some(10), true))
	c.Out()
	c.hears("3/0/1/00000001", "Reset 1 1")
	c.queued(1, 0)
	c.queued(3, 10)
	c.hears(wide(0, 5000), "")
	c.said("0/1/3/" + fmt.Sprintf("%x", some(10)))
}

// D2: Set with End, with no setting, with others: it is answered, but for End.
func TestSet(t *testing.T) {
	for frames, said := range map[string]string{
		"4/0/0/":                                   setEnd,
		"4/254/0/":                                 setEnd,
		"4/1/0/":                                   "",
		"4/255/0/":                                 "",
		"4/0/0/ 4/1/0/ 4/0/0/":                     setEnd + " " + setEnd,
		set(api.SetStreams, 0):                     setEnd,
		set(api.SetStreams, 1<<32-1):               setEnd,
		set(api.SetFrame, 1024, 0, 5, 65535, 1):    setEnd,
		set(api.SetFrame, 1<<32-1, 2, 1<<32-1):     setEnd,
		set(api.SetWindow, 0):                      setEnd,
		set(api.SetTable, 4096, api.SetTable, 0):   setEnd,
		set(api.SetTable, 4097):                    setEnd,
		set(api.SetTable, 1<<32-1):                 setEnd,
		set(api.SetWindow, 1<<31-1, 4, 0, 4, 2000): setEnd,
	} {
		c := begun(t, "1/4/1/")
		c.hears(frames, "")
		c.said(said)
	}
}

// D2: other settings change nothing.
func TestSetOthers(t *testing.T) {
	c := begun(t, "1/4/1/ "+set(api.SetStreams, 0, api.SetFrame, 5000, 0, 0, 2, 0, 6, 0, 1024, 0, 260, 0))
	c.hears("1/4/3/", "Asked 3 0")
	c.ok(c.Send(1, some(2100), false))
	c.said("0/0/1/*1024 0/0/1/*976")
	c.ok(c.Answer(3, []api.Field{{Name: "b-c", Value: "a"}}, false))
	c.said("1/4/3/" + added)
}

// D2: SetWindow shifts the windows for what goes out, of streams that are there and of those that come.
func TestSetWindow(t *testing.T) {
	c := begun(t, wide(0, 100000)+" 1/4/1/ 1/4/3/")
	c.ok(c.Send(1, some(500), false))
	c.ok(c.Send(3, some(2300), true))
	c.said("0/0/1/*500 0/0/3/*1024 0/0/3/*976")
	c.hears(set(api.SetWindow, 2100), "")
	c.said("4/1/0/ 0/0/3/*100")
	c.queued(3, 200)
	c.hears(set(api.SetWindow, 2100), "")
	c.said(setEnd)
	// Now below what went out already: 3 has 300 less than none.
	c.hears(set(api.SetWindow, 1800), "")
	c.said(setEnd)
	c.hears(wide(3, 300), "")
	c.said("")
	c.hears(wide(3, 1), "")
	c.said(fmt.Sprintf("0/0/3/%x", some(2101)[2100:]))
	c.hears(set(api.SetWindow, 0), "")
	c.hears(set(api.SetWindow, 1999), "")
	c.said("4/1/0/ 4/1/0/ 0/1/3/*199")
	// 1 has 1499 now, and one that comes 1999.
	c.ok(c.Send(1, some(1500), false))
	c.queued(1, 1)
	c.hears("1/4/5/", "Asked 5 0")
	c.ok(c.Send(5, some(2001), true))
	c.queued(5, 2)
}

// D2: SetWindow is of what goes out: as much as ever may come.
func TestSetWindowComes(t *testing.T) {
	for _, n := range []int{0, 1, 5000} {
		c := begun(t, "1/4/1/ "+set(api.SetWindow, n)+" 1/4/3/")
		c.hears(data(3, 2000, false), toldCame(3, 2000))
		c.ok(c.Used(3, 2000))
		c.said(wide(0, 2000) + " " + wide(3, 2000))
		c.hears(data(1, 2000, false), toldCame(1, 2000))
		c.hears("0/0/3/ff", "Failed 0 3")
	}
}

// D2: setting by setting: the same one twice holds as it is said last, but each must go.
func TestSetWindowTwice(t *testing.T) {
	c := begun(t, wide(0, 100000)+" 1/4/1/")
	c.ok(c.Send(1, some(6000), false))
	c.Out()
	c.hears(set(api.SetWindow, 5000, api.SetWindow, 2001), "")
	c.said("4/1/0/ 0/0/1/" + fmt.Sprintf("%x", some(2001)[2000:]))
	c.queued(1, 3999)
	c.hears(set(api.SetWindow, 0, api.SetTable, 5, api.SetWindow, 2011), "")
	c.queued(1, 3989)
	// One byte was granted beyond: so a window of MaxWindow would be above it, though less is said behind.
	c = begun(t, "1/4/1/ "+wide(1, 1))
	c.hears(set(api.SetWindow, api.MaxWindow-1, api.SetWindow, 0), "")
	c.said(setEnd)
	c.hears(set(api.SetWindow, api.MaxWindow, api.SetWindow, 0), "Failed 0 3")
	c.failed(1, api.CodeFlow)
}

// D2: a window for what goes out above MaxWindow by SetWindow is wrong for all; of streams that are Closed there is none.
func TestSetWindowOver(t *testing.T) {
	full := api.MaxWindow - api.Window
	for _, say := range []func(c talk){
		func(c talk) {},
		func(c talk) { c.ok(c.Answer(1, nil, true)) },
		func(c talk) { c.hears("0/1/1/", "Came 1 0 end") },
	} {
		c := begun(t, "1/4/1/")
		say(c)
		c.hears(wide(1, full), "")
		c.Out()
		c.hears(set(api.SetWindow, 1999), "")
		c.hears(set(api.SetWindow, 2000), "")
		c.said("4/1/0/ 4/1/0/")
		c.hears(set(api.SetWindow, 2001), "Failed 0 3")
		c.failed(1, api.CodeFlow)
	}
	c := begun(t, "1/5/1/ "+wide(1, full))
	c.ok(c.Answer(1, nil, true))
	c.hears(set(api.SetWindow, api.MaxWindow), "")
	c = begun(t, "1/5/1/ "+wide(1, full)+" 3/0/1/00000000")
	c.hears(set(api.SetWindow, api.MaxWindow), "")
	// It does not touch the connection's.
	c = begun(t, wide(0, full))
	c.hears(set(api.SetWindow, api.MaxWindow)+" 1/4/1/", "Asked 1 0")
	c.said(setEnd)
	c.hears(wide(1, 1), "Reset 1 3")
}

// D2: SetTable is of the table for what goes out, and is told to the other side.
func TestSetTable(t *testing.T) {
	field := []api.Field{{Name: "b-c", Value: "a"}}
	for _, x := range []struct{ frames, first, second string }{
		{"", added, newest},
		{set(api.SetTable, 4096), "3fe11f" + added, newest},
		{set(api.SetTable, 4097), "3fe11f" + added, newest},
		{set(api.SetTable, 1<<32-1), "3fe11f" + added, newest},
		{set(api.SetTable, 1<<31), "3fe11f" + added, newest},
		{set(api.SetTable, 36), "3f05" + added, newest},
		{set(api.SetTable, 35), "3f04" + added, added},
		{set(api.SetTable, 0), "20" + added, added},
		{set(api.SetTable, 0, api.SetTable, 5000), "203fe11f" + added, newest},
		{set(api.SetTable, 50, api.SetTable, 36), "3f05" + added, newest},
		{set(api.SetTable, 36) + " " + set(api.SetTable, 35), "3f04" + added, added},
	} {
		c := begun(t, "1/4/1/ "+x.frames)
		c.ok(c.Answer(1, field, false))
		c.said("1/4/1/" + x.first)
		c.ok(c.Answer(1, field, true))
		c.said("1/5/1/" + x.second)
		// The table for what comes stays.
		c.hears("1/4/1/"+added+" 1/4/1/8d", "Asked 1 0 [{b-c a}]; Asked 1 0 [{b-c a}]")
	}
}

// D2: Ping is said back, if it has no End.
func TestPing(t *testing.T) {
	c := begun(t, "")
	c.hears("5/0/0/0102030405060708 5/254/0/ff00ff00ff00ff00", "")
	c.said("5/1/0/0102030405060708 5/1/0/ff00ff00ff00ff00")
	c.hears("5/1/0/0102030405060708 5/255/0/ff00ff00ff00ff00", "")
	c.said("")
}

// D2: Bye is told with its code, and the other side is heard on.
func TestByeHeard(t *testing.T) {
	c := begun(t, "1/4/1/")
	for body, code := range map[string]int{
		"0000000100000002":   2,
		"ffffffffffffffff":   1<<32 - 1,
		"0000000080000000":   1 << 31,
		"010203040506070809": 0x05060708,
		"0000000000000000":   0,
	} {
		c.hears("6/0/0/"+body, fmt.Sprint("Ended 0 ", code))
		c.hears("6/255/0/"+body, fmt.Sprint("Ended 0 ", code))
	}
	c.hears("6/0/0/*1024", fmt.Sprint("Ended 0 ", int(some(8)[4])<<24|int(some(8)[5])<<16|int(some(8)[6])<<8|int(some(8)[7])))
	c.said("")
	c.hears("0/0/1/ff 1/5/3/", "Came 1 0 *1; Asked 3 0 end")
	c.ok(c.Answer(3, nil, true))
}

// D2: Wide of the connection, up to MaxWindow and above it.
func TestWideAll(t *testing.T) {
	c := begun(t, wide(0, api.MaxWindow-api.Window))
	c.said("")
	c.hears(wide(0, 1), "Failed 0 3")
	c.failed(0, api.CodeFlow)
	begun(t, "").hears(wide(0, api.MaxWindow-api.Window+1), "Failed 0 3")
	// What went out is less of it.
	c = begun(t, "1/4/1/")
	c.ok(c.Send(1, some(10), false))
	c.hears(wide(0, api.MaxWindow-api.Window+10), "")
	c.hears(wide(0, 1), "Failed 0 3")
	begun(t, "").hears("7/0/0/00000000", "Failed 0 1")
}

// D2: Wide of a stream in each state, up to MaxWindow and above it.
func TestWideStream(t *testing.T) {
	over := wide(1, api.MaxWindow-api.Window+1)
	for begin, events := range map[string]string{
		"":                      "Failed 0 1",
		"1/4/1/":                "Reset 1 3",
		"1/5/1/":                "Reset 1 3",
		"1/4/3/":                "",
		"1/4/1/ 3/0/1/00000000": "",
		"1/5/1/ 0/0/1/":         "",
	} {
		c := begun(t, begin)
		c.hears(over, events)
		if strings.HasPrefix(events, "Reset") {
			c.said(stop(1, api.CodeFlow))
			c.is(c.Send(1, nil, true), api.ErrState)
			c.hears(over+" 0/0/1/ff 3/0/1/00000001", "")
		}
	}
	c := begun(t, "1/4/1/")
	c.ok(c.Answer(1, nil, true))
	c.hears(over, "Reset 1 3")
	begun(t, "1/4/1/").hears(wide(2, 1), "Failed 0 1")
	begun(t, "1/4/1/").hears(wide(3, 1), "Failed 0 1")
	begun(t, "1/4/1/").hears("7/0/1/00000000", "Failed 0 1")
	c = begun(t, "1/4/1/ "+wide(1, api.MaxWindow-api.Window))
	c.said("")
	c.hears(wide(1, 1), "Reset 1 3")
	// Of what SetWindow said last.
	c = begun(t, set(api.SetWindow, 5)+" 1/4/1/ "+wide(1, api.MaxWindow-5))
	c.hears(wide(1, 1), "Reset 1 3")
}

// D2: what goes out when more is granted, of the connection and of a stream.
func TestWideGoes(t *testing.T) {
	c := begun(t, "1/4/1/ 1/4/3/")
	c.ok(c.Send(1, some(2000), false))
	c.ok(c.Send(3, some(1500), true))
	c.said("0/0/1/*1024 0/0/1/*976")
	c.ok(c.Send(1, some(5), false))
	c.hears(wide(0, 300), "")
	c.said("0/0/3/*300")
	c.hears(wide(1, 5), "") // the connection's is full
	c.said("")
	c.hears(wide(0, 1190), "")
	c.said("0/0/3/*1024 0/0/3/*166")
	c.queued(3, 10)
	c.hears(wide(0, 11), "")
	c.said(fmt.Sprintf("0/1/3/%x 0/0/1/%x", some(1500)[1490:], some(1)))
	c.hears(wide(0, 100), "")
	c.said(fmt.Sprintf("0/0/1/%x", some(5)[1:]))
	// The connection's window has 96, that of 1 is full.
	c.ok(c.Send(1, some(97), false))
	c.said("")
	c.hears(wide(1, 1), "")
	c.said("0/0/1/0d")
	c.hears(wide(1, 1000), "")
	c.said("0/0/1/*95")
	c.queued(1, 1)
	c.hears(wide(1, 1), "")
	c.said("")
}
