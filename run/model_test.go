package run

import (
	"encoding/hex"
	"fmt"
	"regexp"
	"strconv"
	"strings"
	"testing"

	"tollgate/api"
	"tollgate/code"
	"tollgate/flow"
	"tollgate/frame"
	"tollgate/head"
	"tollgate/limit"
	"tollgate/plain"
	"tollgate/route"
	"tollgate/wire"
)

// The table, as patterns.
var patterns = func() (l []*regexp.Regexp) {
	for _, form := range []string{"put N N N", "get HEX N", "code WORD", "bits WORD", "say WORD WORD", "hear HEX", "frame HEX", "take N", "give N", "ask WORD N N", "route WORD WORD WORD", "find WORD WORD"} {
		form = strings.NewReplacer(" N", " (0|-?[1-9][0-9]{0,8})", " HEX", " ((?:[0-9a-f][0-9a-f])*)", " WORD", " ([^ \n]*)").Replace(form)
		l = append(l, regexp.MustCompile(`\A`+form+`\z`))
	}
	return l
}()

// modelSession takes a place for what was said and heard, for routes, a Limit and a Window.
type modelSession struct {
	said, heard *head.Coder
	routes      string // as lines
	limit       *limit.Limit
	window      *flow.Window
}

func newModel(t *testing.T) *modelSession {
	t.Helper()
	m := &modelSession{}
	var errs [4]error
	m.said, errs[0] = head.New(200)
	m.heard, errs[1] = head.New(200)
	m.limit, errs[2] = limit.New(1, 5)
	m.window, errs[3] = flow.New(100)
	if errs != [4]error{} {
		t.Fatal(errs)
	}
	return m
}

// answer a line; and the row, from 0, that is asked (-1: none).
func (m *modelSession) answer(line string) (string, int) {
	for i, p := range patterns {
		w := p.FindStringSubmatch(line)
		if w == nil {
			continue
		}
		s, err := m.answerRow(i, w[1:])
		if err != nil {
			return plain.Told(err).Error(), i
		}
		return s, i
	}
	return "bad", -1
}

func modelNumber(s string) int {
	n, err := strconv.Atoi(s)
	if err != nil {
		panic(err)
	}
	return n
}

func modelBytes(s string) []byte {
	b, err := hex.DecodeString(s)
	if err != nil {
		panic(err)
	}
	return b
}

func (m *modelSession) answerRow(row int, w []string) (string, error) {
	switch row {
	case 0:
		b, err := wire.Put(modelNumber(w[0]), modelNumber(w[1]), modelNumber(w[2]))
		return fmt.Sprintf("%x", b), err
	case 1:
		n, used, err := wire.Get(modelBytes(w[0]), modelNumber(w[1]))
		return fmt.Sprint(n, used), err
	case 2:
		return fmt.Sprintf("%x", code.Encode(w[0])), nil
	case 3:
		return fmt.Sprint(code.Bits(w[0])), nil
	case 4:
		b, err := m.said.Encode([]api.Field{{Name: w[0], Value: w[1]}})
		return fmt.Sprintf("%x", b), err
	case 5:
		return m.hear(w[0])
	case 6:
		f, _, err := frame.Read(modelBytes(w[0]))
		return fmt.Sprintf("%d %d %d %d %d", f.Kind, f.Flags, f.Stream, len(f.Body), frame.Check(f)), err
	case 7, 8:
		do := m.window.Take
		if row == 8 {
			do = m.window.Give
		}
		err := do(modelNumber(w[0]))
		return fmt.Sprint(m.window.Left()), err
	case 9:
		ok, err := m.limit.Ask(w[0], modelNumber(w[1]), modelNumber(w[2]))
		return map[bool]string{true: "yes", false: "no"}[ok], err
	case 10:
		return m.route(w)
	}
	l, _, err := route.Parse(m.routes)
	if err != nil {
		panic(err)
	}
	to, rest, err := route.Rest(l, w[0], w[1])
	return to + " " + rest, err
}

func (m *modelSession) hear(s string) (string, error) {
	l, err := m.heard.Decode(modelBytes(s))
	all := "-"
	for i, f := range l {
		if i == 0 {
			all = ""
		} else {
			all += " "
		}
		all += f.Name + "=" + f.Value
	}
	return all, err
}

// route keeps routes as lines, so that each is read anew. An empty word is none there.
func (m *modelSession) route(w []string) (string, error) {
	if w[0] == "" {
		w[0] = "*"
	}
	more := m.routes + strings.Join(w, " ") + "\n"
	if _, _, err := route.Parse(more); err != nil {
		return "", err
	}
	m.routes = more
	return "ok", nil
}

// roller gives numbers that look as if they were rolled, the same in each run.
func roller(seed uint64) func(n int) int {
	return func(n int) int {
		seed = seed*6364136223846793005 + 1442695040888963407
		return int(seed>>33) % n
	}
}

// some words for each place of a row, most of them such as may stand there.
func someLines() [][][]string {
	first := []string{"0", "10", "31", "1337", "-1", "999999999"}
	bits := []string{"5", "8", "1", "7", "0", "9"}
	bytes := []string{"", "0a", "1f00", "1f9a0a", "1f", "1f8000", "1f8080808008", "ff80", "2a0a"}
	texts := []string{"a", "tea", "x/y", "Q", "", "text", "type", ":path", "/", "\xff", "\r"}
	heads := []string{"", "81", "88", "8d", "8e", "8d8e", "4001610131", "4001620132", "4d0133", "0001610131", "20", "3fa901", "4800", "000000", "3faa01", "8120", "40"}
	frames := []string{"000000000000000001", "000000000000000000", "000003030000000001000000", "00000403000000000100000000", "0000080500000000000001020304050607", "0000080500000000000001020304050607ff", "00000407000000000100000000", "000401000000000000", "000000000080000000", "000001000000000001", "0000", "000006040000000000000480000000"}
	amounts := []string{"0", "1", "7", "30", "100", "101", "-1", "999999999"}
	keys := []string{"k", "j", "", "i"}
	times := []string{"0", "1", "2", "3", "5", "9", "20", "1000000", "1000001", "-1"}
	few := []string{"1", "2", "3", "5", "6", "0"}
	hosts, paths, places := []string{"*", "h", "k", "", "**", "\t"}, []string{"/", "/a", "/b", "/a/", "/a/b", "/ab", "/c", "/b/c", "//", "/d/", "a", ""}, []string{"one", "two", "T-3", "*", ""}
	return [][][]string{
		{{"put"}, first, bits, {"0", "32", "224", "1", "256"}}, {{"get"}, bytes, bits}, {{"code"}, texts}, {{"bits"}, texts},
		{{"say"}, texts, texts}, {{"hear"}, heads}, {{"frame"}, frames}, {{"take"}, amounts}, {{"give"}, amounts},
		{{"ask"}, keys, times, few}, {{"route"}, hosts, paths, places}, {{"find"}, hosts, paths},
	}
}

// rolledLine is most often one of a row.
func rolledLine(roll func(n int) int, rows [][][]string) string {
	row := rows[roll(len(rows))]
	var words []string
	for _, some := range row {
		words = append(words, some[roll(len(some))])
	}
	line := strings.Join(words, " ")
	if at := roll(len(line) + 1); roll(8) == 0 {
		odd := []string{" ", "x", "0", "-", "+", "A", "\r", "  ", "*"}
		line = line[:at] + odd[roll(len(odd))] + line[min(at+roll(2), len(line)):]
	}
	return line
}

// Many texts of many lines: the answers, and those to a beginning.
func TestManyTexts(t *testing.T) {
	roll, all := roller(20), someLines()
	outcomes := map[string]int{}
	for range 1500 {
		m, rows := newModel(t), all
		// Some texts have lines of few rows, so that much is asked of one thing.
		if roll(2) == 0 {
			at := roll(len(all) - 1)
			rows = all[at : at+2]
		}
		text, want := "", ""
		for range roll(250) {
			line := rolledLine(roll, rows)
			if len(text)+len(line) >= most {
				break
			}
			s, row := m.answer(line)
			text, want = text+line+"\n", want+s+"\n"
			if row >= 0 && !strings.HasPrefix(s, "Err") && s != "no" {
				s = "answered"
			}
			outcomes[strconv.Itoa(row)+" "+s]++
			if roll(50) == 0 {
				checkRun(t, text, want)
			}
		}
		checkRun(t, text, want)
		checkRun(t, strings.TrimSuffix(text, "\n"), want)
		if t.Failed() {
			t.FailNow()
		}
	}
	checkOutcomes(t, outcomes)
}

// checkOutcomes asks that each row came to all that it can come to.
func checkOutcomes(t *testing.T, outcomes map[string]int) {
	t.Helper()
	want := []string{"-1 bad"}
	for row, errs := range []string{"ErrRange", "ErrRange ErrShort ErrSyntax ErrOver", "", "", "", "ErrNone ErrRange ErrState ErrShort", "ErrShort ErrFull ErrOver", "ErrRange ErrFlow", "ErrRange ErrOver", "no ErrRange ErrState", "ErrSyntax ErrClash ErrFull", "ErrNone"} {
		for _, s := range append(strings.Fields(errs), "answered") {
			want = append(want, strconv.Itoa(row)+" "+s)
		}
	}
	for _, s := range want {
		if outcomes[s] < 100 {
			t.Errorf("only %d lines came to %q", outcomes[s], s)
		}
	}
}
