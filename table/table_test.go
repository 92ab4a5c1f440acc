package table

import (
	"math"
	"strings"
	"testing"

	"tollgate/api"
	"tollgate/plain"
)

// theFirst are the fields that are always there, as the chapter has them.
func theFirst() []api.Field {
	return []api.Field{
		{Name: ":method", Value: "GET"}, {Name: ":method", Value: "POST"}, {Name: ":path", Value: "/"},
		{Name: ":host", Value: ""}, {Name: ":code", Value: "200"}, {Name: ":code", Value: "404"},
		{Name: "length", Value: ""}, {Name: "type", Value: "text"}, {Name: "cookie", Value: ""},
		{Name: "accept", Value: "*"}, {Name: "date", Value: ""}, {Name: "server", Value: ""},
	}
}

func field(name, value string) api.Field { return api.Field{Name: name, Value: value} }

// sized is a field of a size, that begins with a letter.
func sized(letter string, size int) api.Field {
	return field(letter, strings.Repeat(letter, size-32-len(letter)))
}

// made is a table to which fields were added, each of which must fit.
func made(t *testing.T, max int, l ...api.Field) *Table {
	t.Helper()
	tab, err := New(max)
	if err != nil || tab == nil {
		t.Fatalf("New(%d): %v %v", max, tab, err)
	}
	for _, f := range l {
		if !tab.Add(f) {
			t.Fatalf("Add(%q) to a table of %d: false", f, max)
		}
	}
	return tab
}

// checkAll: behind the first twelve a table has just these, the newest first.
func checkAll(t *testing.T, tab *Table, max int, added ...api.Field) {
	t.Helper()
	size := 0
	for _, f := range added {
		size += len(f.Name) + len(f.Value) + 32
	}
	all := append(theFirst(), added...)
	if tab.Size() != size || tab.Len() != len(all) || tab.Max() != max {
		t.Errorf("Size, Len, Max: got %d %d %d, want %d %d %d", tab.Size(), tab.Len(), tab.Max(), size, len(all), max)
	}
	for i, f := range all {
		if g, err := tab.Get(i + 1); g != f || err != nil {
			t.Errorf("Get(%d): got %q %v, want %q", i+1, g, err, f)
		}
	}
	for _, i := range []int{math.MinInt, math.MinInt + 1, -1 << 32, -12, -1, 0, len(all) + 1, len(all) + 2, 1<<32 + 1, math.MaxInt - 1, math.MaxInt} {
		if g, err := tab.Get(i); g != (api.Field{}) || plain.Told(err) != api.ErrNone {
			t.Errorf("Get(%d) of %d: got %q %v, want ErrNone", i, len(all), g, err)
		}
	}
}

func checkFind(t *testing.T, tab *Table, f api.Field, whole, name int) {
	t.Helper()
	if w, n := tab.Find(f); w != whole || n != name {
		t.Errorf("Find(%q): got %d %d, want %d %d", f, w, n, whole, name)
	}
}

// TestFirst: each of the numbers 1 to 12 is always, and is found.
func TestFirst(t *testing.T) {
	full := made(t, 4096)
	for i := range 300 {
		full.Add(field("x", strings.Repeat("y", i%7)))
	}
	for _, tab := range []*Table{made(t, 0), made(t, 200), made(t, 4096), full} {
		for i, f := range theFirst() {
			if g, err := tab.Get(i + 1); g != f || err != nil {
				t.Errorf("Get(%d): got %q %v, want %q", i+1, g, err, f)
			}
		}
	}
	names := []int{1, 1, 3, 4, 5, 5, 7, 8, 9, 10, 11, 12}
	for i, f := range theFirst() {
		checkFind(t, full, f, i+1, names[i])
		checkFind(t, full, field(f.Name, "another"), 0, names[i])
		checkFind(t, full, field(strings.ToUpper(f.Name), f.Value), 0, 0)
		checkFind(t, full, field(f.Name+" ", f.Value), 0, 0)
	}
	checkAll(t, made(t, 0), 0)
	checkAll(t, made(t, 4096), 4096)
}

// TestNewest: those that were added stand behind the first, the newest first.
func TestNewest(t *testing.T) {
	a, b, c := field("a", "1"), field("bb", ""), field("", "ccc")
	tab := made(t, 200)
	checkAll(t, tab, 200)
	tab.Add(a)
	checkAll(t, tab, 200, a)
	tab.Add(b)
	checkAll(t, tab, 200, b, a)
	tab.Add(c)
	checkAll(t, tab, 200, c, b, a)
	checkFind(t, tab, c, 13, 13)
	checkFind(t, tab, b, 14, 14)
	checkFind(t, tab, a, 15, 15)
}

// TestSizes: bytes of the name and of the value count, not letters, and 32.
func TestSizes(t *testing.T) {
	for _, c := range []struct {
		f    api.Field
		size int
	}{
		{field("", ""), 32},
		{field("a", ""), 33},
		{field("", "a"), 33},
		{field("name", "value"), 41},
		{field("é", "\u20ac"), 37},
		{field("\x00", "\xff\xfe"), 35},
		{field(strings.Repeat("n", 400), strings.Repeat("v", 400)), 832},
		{field("", strings.Repeat("v", 4064)), 4096},
	} {
		tab := made(t, 4096, c.f)
		if tab.Size() != c.size || SizeOf(c.f) != c.size {
			t.Errorf("%q: size %d, by itself %d, want %d", c.f, tab.Size(), SizeOf(c.f), c.size)
		}
		checkAll(t, tab, 4096, c.f)
	}
}

func TestNewRange(t *testing.T) {
	for _, max := range []int{math.MinInt, -1 << 32, -4096, -1, 4097, 65536, 1 << 32, 1<<32 + 1, math.MaxInt} {
		if tab, err := New(max); tab != nil || plain.Told(err) != api.ErrRange {
			t.Errorf("New(%d): got %v %v, want ErrRange", max, tab, err)
		}
	}
	for _, max := range []int{0, 1, 31, 32, 33, 4095, 4096} {
		checkAll(t, made(t, max), max)
	}
}

// TestJustMax: a field may be as great as max, and not one byte more.
func TestJustMax(t *testing.T) {
	for _, max := range []int{33, 34, 64, 100, 832, 4095, 4096} {
		old, just := field("", ""), sized("j", max)
		tab := made(t, max, old, just)
		checkAll(t, tab, max, just)
		if tab.Add(sized("k", max+1)) {
			t.Errorf("a field of %d was added to a table of %d", max+1, max)
		}
		checkAll(t, tab, max)
		if !tab.Add(just) {
			t.Errorf("a field of %d was not added to a table of %d that is empty", max, max)
		}
		checkAll(t, tab, max, just)
	}
	tab := made(t, 32, field("", ""))
	checkAll(t, tab, 32, field("", ""))
	for _, max := range []int{0, 1, 31} {
		tab := made(t, max)
		if tab.Add(field("", "")) {
			t.Errorf("a field of 32 was added to a table of %d", max)
		}
		checkAll(t, tab, max)
	}
}

// TestTooGreat: a field that does not fit lets all go, however many there were.
func TestTooGreat(t *testing.T) {
	for _, f := range []api.Field{sized("k", 201), sized("k", 4097), field(strings.Repeat("k", 1<<20), ""), field(strings.Repeat("k", 100), strings.Repeat("k", 69))} {
		tab := made(t, 200, sized("a", 40), sized("b", 50), sized("c", 60))
		if tab.Add(f) {
			t.Errorf("a field of %d bytes was added", len(f.Name)+len(f.Value))
		}
		checkAll(t, tab, 200)
		checkFind(t, tab, f, 0, 0)
		checkFind(t, tab, sized("c", 60), 0, 0)
	}
}

// TestOldestGo: no more of them than must.
func TestOldestGo(t *testing.T) {
	a, b, c := sized("a", 50), sized("b", 60), sized("c", 70)
	for _, x := range []struct {
		size int
		left []api.Field
	}{
		{33, []api.Field{c, b}},
		{70, []api.Field{c, b}},
		{71, []api.Field{c}},
		{130, []api.Field{c}},
		{131, nil},
		{200, nil},
	} {
		tab := made(t, 200, a, b, c)
		f := sized("f", x.size)
		if !tab.Add(f) {
			t.Errorf("a field of %d was not added", x.size)
		}
		checkAll(t, tab, 200, append([]api.Field{f}, x.left...)...)
	}
	tab := made(t, 213, a, b, c, sized("f", 33))
	checkAll(t, tab, 213, sized("f", 33), c, b, a)
	tab = made(t, 212, a, b, c, sized("f", 33))
	checkAll(t, tab, 212, sized("f", 33), c, b)
}

// TestFull: a table of the greatest max holds 128 of the least fields.
func TestFull(t *testing.T) {
	least := make([]api.Field, 128)
	tab := made(t, 4096, least...)
	checkAll(t, tab, 4096, least...)
	tab.Add(field("", ""))
	checkAll(t, tab, 4096, least...)
	tab.Add(field("x", ""))
	checkAll(t, tab, 4096, append([]api.Field{field("x", "")}, least[:126]...)...)
}

// TestAlike: of fields that are alike, or have one name, the least number is found.
func TestAlike(t *testing.T) {
	get, x, y := field(":method", "GET"), field("n", "x"), field("n", "y")
	tab := made(t, 400, x, get, y, x, get, field("cookie", "c"))
	checkAll(t, tab, 400, field("cookie", "c"), get, x, y, get, x)
	checkFind(t, tab, get, 1, 1)
	checkFind(t, tab, x, 15, 15)
	checkFind(t, tab, y, 16, 15)
	checkFind(t, tab, field("n", "z"), 0, 15)
	checkFind(t, tab, field("n", ""), 0, 15)
	checkFind(t, tab, field("N", "x"), 0, 0)
	checkFind(t, tab, field("x", "n"), 0, 0)
	checkFind(t, tab, field("nx", ""), 0, 0)
	checkFind(t, tab, field("", ""), 0, 0)
	checkFind(t, tab, field("", "x"), 0, 0)
	// One that was added under a name that is always there: whole behind, by name ahead.
	checkFind(t, tab, field("cookie", "c"), 13, 9)
	checkFind(t, tab, field("cookie", ""), 9, 9)
	checkFind(t, tab, field("cookie", "d"), 0, 9)
	checkFind(t, tab, field(":method", "PUT"), 0, 1)
	// What has gone is not found any more.
	tab.Add(sized("k", 401))
	checkFind(t, tab, x, 0, 0)
	checkFind(t, tab, get, 1, 1)
	checkFind(t, tab, field("cookie", "c"), 0, 9)
}

func TestEmptyNames(t *testing.T) {
	tab := made(t, 200, field("", ""), field("", "v"))
	checkFind(t, tab, field("", "v"), 13, 13)
	checkFind(t, tab, field("", ""), 14, 13)
	checkFind(t, tab, field("", "w"), 0, 13)
}

// TestResize: smaller, and greater again; what went does not come back.
func TestResize(t *testing.T) {
	a, b, c := sized("a", 50), sized("b", 60), sized("c", 70)
	for _, x := range []struct {
		max  int
		left []api.Field
	}{
		{4096, []api.Field{c, b, a}},
		{180, []api.Field{c, b, a}},
		{179, []api.Field{c, b}},
		{130, []api.Field{c, b}},
		{129, []api.Field{c}},
		{70, []api.Field{c}},
		{69, nil},
		{1, nil},
		{0, nil},
	} {
		tab := made(t, 200, a, b, c)
		if err := tab.Resize(x.max); err != nil {
			t.Errorf("Resize(%d): %v", x.max, err)
		}
		checkAll(t, tab, x.max, x.left...)
		if err := tab.Resize(200); err != nil {
			t.Errorf("Resize(200): %v", err)
		}
		checkAll(t, tab, 200, x.left...)
	}
}

// TestResizeBounds: what a table may hold goes by the last Resize, not by New.
func TestResizeBounds(t *testing.T) {
	tab := made(t, 0)
	if err := tab.Resize(4096); err != nil {
		t.Fatal(err)
	}
	great := sized("g", 4096)
	if !tab.Add(great) {
		t.Error("a table that was made greater takes no more")
	}
	checkAll(t, tab, 4096, great)
	if err := tab.Resize(40); err != nil {
		t.Fatal(err)
	}
	checkAll(t, tab, 40)
	if tab.Add(sized("g", 41)) || !tab.Add(sized("h", 40)) {
		t.Error("a table that was made smaller takes other than it may")
	}
	checkAll(t, tab, 40, sized("h", 40))
}

// TestResizeRange: what is refused changes nothing.
func TestResizeRange(t *testing.T) {
	a, b := sized("a", 50), sized("b", 60)
	tab := made(t, 200, a, b)
	for _, max := range []int{math.MinInt, -1 << 32, -4096, -1, 4097, 65536, 1 << 32, 1<<32 + 1, math.MaxInt} {
		if err := tab.Resize(max); plain.Told(err) != api.ErrRange {
			t.Errorf("Resize(%d): got %v, want ErrRange", max, err)
		}
		checkAll(t, tab, 200, b, a)
	}
}

// TestApart: what is done to one table is not seen in another, nor what is done to an answer.
func TestApart(t *testing.T) {
	one, two := made(t, 200, field("a", "1")), made(t, 200, field("b", "2"))
	f, _ := one.Get(13)
	f.Name, f.Value = "x", "x"
	f, _ = one.Get(1)
	f.Name, f.Value = "x", "x"
	two.Add(field("c", "3"))
	checkAll(t, one, 200, field("a", "1"))
	checkAll(t, two, 200, field("c", "3"), field("b", "2"))
}

// TestGoneIsNotKept: texts that have gone do not stay behind the list.
func TestGoneIsNotKept(t *testing.T) {
	tab := made(t, 400, sized("a", 50), sized("b", 60), sized("c", 70), sized("d", 80))
	if err := tab.Resize(100); err != nil {
		t.Fatal(err)
	}
	for _, f := range tab.added[len(tab.added):cap(tab.added)] {
		if f != (api.Field{}) {
			t.Errorf("kept: %q", f)
		}
	}
}

// model is a table by the words of the chapter: all that were ever added and have not gone, the oldest first.
type model struct {
	max int
	l   []api.Field
}

func (m *model) size() (n int) {
	for _, f := range m.l {
		n += 32 + len(f.Name) + len(f.Value)
	}
	return n
}

func (m *model) drop(room int) {
	for len(m.l) > 0 && m.size() > room {
		m.l = m.l[1:]
	}
}

func (m *model) add(f api.Field) bool {
	size := 32 + len(f.Name) + len(f.Value)
	m.drop(m.max - size)
	if size > m.max {
		return false
	}
	m.l = append(m.l, f)
	return true
}

func (m *model) newest() (l []api.Field) {
	for i := len(m.l) - 1; i >= 0; i-- {
		l = append(l, m.l[i])
	}
	return l
}

func (m *model) find(f api.Field) (whole, name int) {
	all := append(theFirst(), m.newest()...)
	for i := len(all) - 1; i >= 0; i-- {
		if all[i] == f {
			whole = i + 1
		}
		if all[i].Name == f.Name {
			name = i + 1
		}
	}
	return whole, name
}

// TestManySteps: after each of many steps a table is what the chapter's words make of it.
func TestManySteps(t *testing.T) {
	names := []string{"", "a", "cookie", ":method", "type", "long-name-of-a-field", "a"}
	values := []string{"", "1", "GET", "text", strings.Repeat("v", 40), strings.Repeat("w", 300)}
	state := uint32(1)
	next := func(n int) int {
		state = state*1664525 + 1013904223
		return int(state>>16) % n
	}
	for _, max := range []int{0, 32, 100, 200, 1000, 4096} {
		tab, m := made(t, max), &model{max: max}
		for range 1500 {
			f := field(names[next(len(names))], values[next(len(values))])
			whole, name := m.find(f)
			checkFind(t, tab, f, whole, name)
			if next(12) == 0 {
				to := next(1200) - 20
				err := tab.Resize(to)
				if (err == nil) != (to >= 0) {
					t.Fatalf("Resize(%d): %v", to, err)
				}
				if to >= 0 {
					m.max = to
					m.drop(to)
				}
			} else if got, want := tab.Add(f), m.add(f); got != want {
				t.Fatalf("Add(%q): got %v, want %v", f, got, want)
			}
			checkAll(t, tab, m.max, m.newest()...)
			if t.Failed() {
				return
			}
		}
	}
}
