package frame

import (
	"bytes"
	"math"
	"reflect"
	"slices"
	"testing"

	"tollgate/api"
	"tollgate/plain"
)

func piece(kind, flags, stream int, body ...byte) api.Frame {
	return api.Frame{Kind: kind, Flags: flags, Stream: stream, Body: body}
}

// same tells whether two frames are; of Bodies, an empty one and nil are the same.
func same(a, b api.Frame) bool {
	return a.Kind == b.Kind && a.Flags == b.Flags && a.Stream == b.Stream && bytes.Equal(a.Body, b.Body)
}

// some bytes that are not alike from piece to piece.
func some(n int) []byte {
	b := make([]byte, n)
	for i := range b {
		b[i] = byte(i*7 + i/251)
	}
	return b
}

// join lays lists of bytes one behind the other.
func join(l ...[]byte) []byte { return slices.Concat(l...) }

func encode(t *testing.T, f api.Frame) []byte {
	t.Helper()
	b, err := Encode(f)
	if err != nil {
		t.Fatalf("Encode of %d %d %d, %d bytes: %v", f.Kind, f.Flags, f.Stream, len(f.Body), err)
	}
	return b
}

func checkRead(t *testing.T, b []byte, want api.Frame, used int) {
	t.Helper()
	f, n, err := Read(b)
	if err != nil || n != used || !same(f, want) {
		t.Errorf("Read of %d bytes: got %v %d %v, want %v %d", len(b), f, n, err, want, used)
	}
}

func refuseEncode(t *testing.T, f api.Frame, want api.Errno) {
	t.Helper()
	if b, err := Encode(f); b != nil || plain.Told(err) != want {
		t.Errorf("Encode of %d %d %d, %d bytes: got %v %v, want %v", f.Kind, f.Flags, f.Stream, len(f.Body), b, err, want)
	}
}

func refuseRead(t *testing.T, b []byte, want api.Errno) {
	t.Helper()
	f, n, err := Read(b)
	if !reflect.DeepEqual(f, api.Frame{}) || n != 0 || plain.Told(err) != want {
		t.Errorf("Read of %d bytes, first %v: got %v %d %v, want %v", len(b), b[:min(len(b), 9)], f, n, err, want)
	}
}

func checkCode(t *testing.T, f api.Frame, want int) {
	t.Helper()
	if got := Check(f); got != want {
		t.Errorf("Check of kind %d, flags %d, stream %d, body %v: got %d, want %d", f.Kind, f.Flags, f.Stream, f.Body, got, want)
	}
}

// F1: what Encode writes, byte by byte, and that Read reads it.
func TestEncode(t *testing.T) {
	for _, c := range []struct {
		f    api.Frame
		want []byte
	}{
		{piece(0, 0, 0), []byte{0, 0, 0, 0, 0, 0, 0, 0, 0}},
		{piece(1, 0, 0), []byte{0, 0, 0, 1, 0, 0, 0, 0, 0}},
		{piece(0, 1, 0), []byte{0, 0, 0, 0, 1, 0, 0, 0, 0}},
		{piece(0, 0, 1), []byte{0, 0, 0, 0, 0, 0, 0, 0, 1}},
		{piece(254, 254, api.MaxWord-1, 0), []byte{0, 0, 1, 254, 254, 127, 255, 255, 254, 0}},
		{piece(255, 255, api.MaxWord, 255), []byte{0, 0, 1, 255, 255, 127, 255, 255, 255, 255}},
		{piece(api.Head, api.End|api.Whole, 0x01020304, 9, 8, 7), []byte{0, 0, 3, 1, 5, 1, 2, 3, 4, 9, 8, 7}},
	} {
		b, err := Encode(c.f)
		if err != nil || !bytes.Equal(b, c.want) {
			t.Errorf("Encode(%v): got %v %v, want %v", c.f, b, err, c.want)
		}
		checkRead(t, c.want, c.f, len(c.want))
	}
}

// F1: Bodies of each size that the chapter names.
func TestEncodeSizes(t *testing.T) {
	for _, c := range []struct {
		n    int
		size []byte
	}{
		{0, []byte{0, 0, 0}},
		{1, []byte{0, 0, 1}},
		{255, []byte{0, 0, 255}},
		{256, []byte{0, 1, 0}},
		{api.MaxFrame - 1, []byte{0, 3, 255}},
		{api.MaxFrame, []byte{0, 4, 0}},
	} {
		f := piece(api.Data, api.End, 3, some(c.n)...)
		b := encode(t, f)
		if want := join(c.size, []byte{0, 1, 0, 0, 0, 3}, f.Body); !bytes.Equal(b, want) {
			t.Errorf("Encode of %d bytes: got %v, want %v", c.n, b, want)
		}
		checkRead(t, b, f, c.n+9)
	}
}

// F1: what Encode refuses, and that ErrRange is told ahead of ErrFull.
func TestEncodeRefuses(t *testing.T) {
	for _, n := range []int{-1, 256, math.MinInt, math.MaxInt} {
		refuseEncode(t, piece(n, 0, 0), api.ErrRange)
		refuseEncode(t, piece(0, n, 0), api.ErrRange)
		refuseEncode(t, piece(n, 0, 0, some(api.MaxFrame+1)...), api.ErrRange)
		refuseEncode(t, piece(0, n, 0, some(api.MaxFrame+1)...), api.ErrRange)
	}
	for _, n := range []int{-1, api.MaxWord + 1, 1 << 32, math.MinInt, math.MaxInt} {
		refuseEncode(t, piece(0, 0, n), api.ErrRange)
		refuseEncode(t, piece(0, 0, n, some(api.MaxFrame+1)...), api.ErrRange)
	}
	for _, n := range []int{api.MaxFrame + 1, 2 * api.MaxFrame, 1<<24 + 1} {
		refuseEncode(t, piece(255, 255, api.MaxWord, make([]byte, n)...), api.ErrFull)
	}
}

// F1: Read takes the first frame alone, whatever stands behind it.
func TestReadBehind(t *testing.T) {
	for _, f := range []api.Frame{
		piece(api.Ping, 0, 0, some(8)...),
		piece(255, 255, api.MaxWord),
		piece(api.Data, 0, 1, some(api.MaxFrame)...),
	} {
		b := encode(t, f)
		for _, behind := range [][]byte{{0}, {255, 255, 255, 255}, some(2000), encode(t, piece(1, 2, 3, 4))} {
			checkRead(t, join(b, behind), f, len(b))
		}
	}
}

// F1: frames one behind the other are read one by one.
func TestReadOneByOne(t *testing.T) {
	var all []byte
	var said []api.Frame
	for n := range 60 {
		f := piece(n%9, n*4%256, n*n*n, some(n*n%(api.MaxFrame+1))...)
		said = append(said, f)
		all = append(all, encode(t, f)...)
	}
	for _, want := range said {
		f, n, err := Read(all)
		if err != nil || !same(f, want) || n != 9+len(want.Body) {
			t.Fatalf("Read: got %v %d %v, want %v", f, n, err, want)
		}
		all = all[n:]
	}
	if len(all) != 0 {
		t.Errorf("%d bytes are left", len(all))
	}
}

// F1: each frame that is cut is short.
func TestReadCut(t *testing.T) {
	for _, f := range []api.Frame{piece(0, 0, 0), piece(7, 1, api.MaxWord, some(4)...), piece(0, 0, 1, some(api.MaxFrame)...)} {
		b := encode(t, f)
		for n := range len(b) {
			refuseRead(t, b[:n], api.ErrShort)
		}
	}
	refuseRead(t, nil, api.ErrShort)
}

// F1: what Read refuses, and which is told first.
func TestReadRefuses(t *testing.T) {
	full := []byte{0, 4, 1, 0, 0, 0, 0, 0, 1}
	over := []byte{0, 4, 0, 0, 0, 128, 0, 0, 0}
	both := []byte{1, 0, 0, 0, 0, 255, 255, 255, 255}
	body := some(api.MaxFrame)
	for _, c := range []struct {
		name string
		b    []byte
		want api.Errno
	}{
		{"one more than MaxFrame, none there", full, api.ErrFull},
		{"one more than MaxFrame, all there", join(full, body, []byte{1}), api.ErrFull},
		{"as many as three bytes tell", []byte{255, 255, 255, 0, 0, 0, 0, 0, 1}, api.ErrFull},
		{"the high byte counts", []byte{1, 0, 0, 0, 0, 0, 0, 0, 1}, api.ErrFull},
		{"one more than MaxFrame, of eight bytes", full[:8], api.ErrShort},
		{"Stream one above MaxWord, all there", join(over, body), api.ErrOver},
		{"Stream one above MaxWord, cut", over, api.ErrOver},
		{"Stream one above MaxWord, no Body", []byte{0, 0, 0, 0, 0, 128, 0, 0, 0}, api.ErrOver},
		{"Stream of four bytes of 255", []byte{0, 0, 0, 0, 0, 255, 255, 255, 255}, api.ErrOver},
		{"Stream above MaxWord, of eight bytes", over[:8], api.ErrShort},
		{"too many, and Stream above MaxWord", both, api.ErrFull},
		{"Body one short", join([]byte{0, 4, 0, 0, 0, 127, 255, 255, 255}, body[1:]), api.ErrShort},
	} {
		t.Run(c.name, func(t *testing.T) { refuseRead(t, c.b, c.want) })
	}
}

// F1: behind a list's length there may be more bytes, which are not the frame's.
func TestReadLength(t *testing.T) {
	b := encode(t, piece(0, 0, 1, 1, 2, 3))
	refuseRead(t, b[:len(b)-1], api.ErrShort)
	refuseRead(t, b[:8], api.ErrShort)
}

// F2: each Kind of Stream 0 and of another one, with a Body that is right.
func TestCheckStream(t *testing.T) {
	right := map[int][]byte{api.Stop: some(4), api.Ping: some(8), api.Bye: some(8), api.Wide: {0, 0, 0, 1}}
	for _, c := range []struct{ kind, zero, other int }{
		{api.Data, api.CodeProto, 0},
		{api.Head, api.CodeProto, 0},
		{api.More, api.CodeProto, 0},
		{api.Stop, api.CodeProto, 0},
		{api.Set, 0, api.CodeProto},
		{api.Ping, 0, api.CodeProto},
		{api.Bye, 0, api.CodeProto},
		{api.Wide, 0, 0},
		{8, 0, 0},
		{255, 0, 0},
	} {
		checkCode(t, piece(c.kind, 0, 0, right[c.kind]...), c.zero)
		for _, n := range []int{1, 2, api.MaxWord} {
			checkCode(t, piece(c.kind, 0, n, right[c.kind]...), c.other)
		}
	}
}

// F2: how many bytes a Body has, for each number of bytes that is near to one that the chapter names.
func TestCheckSize(t *testing.T) {
	for n := range 26 {
		body := make([]byte, n)
		if n > 0 {
			body[n-1] = 1
		}
		for kind, may := range map[int]bool{
			api.Data: true, api.Head: true, api.More: true,
			api.Stop: n == 4, api.Set: n%6 == 0, api.Ping: n == 8, api.Bye: n >= 8, api.Wide: n == 4,
			8: true,
		} {
			stream, want := 0, 0
			if kind <= api.Stop {
				stream = 1
			}
			if !may {
				want = api.CodeSize
			}
			checkCode(t, piece(kind, 0, stream, body...), want)
		}
	}
	checkCode(t, piece(api.Bye, 0, 0, some(api.MaxFrame)...), 0)
	checkCode(t, piece(api.Data, 0, 1, some(api.MaxFrame)...), 0)
}

// F2: Set with End says that it was heard, and nothing else.
func TestCheckSetEnd(t *testing.T) {
	for _, flags := range []int{0, 2, 4, 254} {
		checkCode(t, piece(api.Set, flags, 0), 0)
		checkCode(t, piece(api.Set, flags, 0, some(6)...), 0)
		checkCode(t, piece(api.Set, flags|api.End, 0), 0)
		checkCode(t, piece(api.Set, flags|api.End, 0, some(6)...), api.CodeSize)
		checkCode(t, piece(api.Set, flags|api.End, 0, some(5)...), api.CodeSize)
	}
	for _, kind := range []int{api.Ping, api.Bye} {
		checkCode(t, piece(kind, api.End, 0, some(8)...), 0)
	}
}

// F2: by how much a window is made wider, of Stream 0 and of another one.
func TestCheckWide(t *testing.T) {
	for _, c := range []struct {
		body []byte
		want int
	}{
		{[]byte{0, 0, 0, 0}, api.CodeProto},
		{[]byte{0, 0, 0, 1}, 0},
		{[]byte{1, 0, 0, 0}, 0},
		{[]byte{127, 255, 255, 255}, 0},
		{[]byte{128, 0, 0, 0}, api.CodeProto},
		{[]byte{128, 0, 0, 1}, api.CodeProto},
		{[]byte{255, 255, 255, 255}, api.CodeProto},
		{[]byte{0, 0, 0}, api.CodeSize},
		{[]byte{0, 0, 0, 0, 0}, api.CodeSize},
		{[]byte{255, 255, 255, 255, 255}, api.CodeSize},
		{nil, api.CodeSize},
	} {
		checkCode(t, piece(api.Wide, 0, 0, c.body...), c.want)
		checkCode(t, piece(api.Wide, 255, 5, c.body...), c.want)
	}
}

// F2: settings, each alone and behind one that is right.
func TestCheckSets(t *testing.T) {
	for _, c := range []struct {
		set  []byte
		want int
	}{
		{[]byte{0, api.SetWindow, 0, 0, 0, 0}, 0},
		{[]byte{0, api.SetWindow, 127, 255, 255, 255}, 0},
		{[]byte{0, api.SetWindow, 128, 0, 0, 0}, api.CodeFlow},
		{[]byte{0, api.SetWindow, 255, 255, 255, 255}, api.CodeFlow},
		{[]byte{1, api.SetWindow, 128, 0, 0, 0}, 0},
		{[]byte{0, api.SetFrame, 0, 0, 4, 0}, 0},
		{[]byte{0, api.SetFrame, 0, 0, 3, 255}, api.CodeProto},
		{[]byte{0, api.SetFrame, 0, 0, 0, 0}, api.CodeProto},
		{[]byte{0, api.SetFrame, 0, 0, 4, 1}, 0},
		{[]byte{0, api.SetFrame, 127, 255, 255, 255}, 0},
		{[]byte{0, api.SetFrame, 128, 0, 0, 0}, 0},
		{[]byte{0, api.SetFrame, 255, 255, 255, 255}, 0},
		{[]byte{1, api.SetFrame, 0, 0, 0, 0}, 0},
		{[]byte{0, api.SetTable, 0, 0, 0, 0}, 0},
		{[]byte{0, api.SetTable, 255, 255, 255, 255}, 0},
		{[]byte{0, api.SetStreams, 0, 0, 0, 0}, 0},
		{[]byte{0, api.SetStreams, 128, 0, 0, 0}, 0},
		{[]byte{0, 0, 0, 0, 0, 0}, 0},
		{[]byte{0, 2, 255, 255, 255, 255}, 0},
		{[]byte{0, 6, 255, 255, 255, 255}, 0},
		{[]byte{255, 255, 255, 255, 255, 255}, 0},
	} {
		checkCode(t, piece(api.Set, 0, 0, c.set...), c.want)
		behind := join([]byte{0, api.SetWindow, 0, 0, 0, 9}, c.set, []byte{0, api.SetFrame, 0, 0, 4, 0})
		checkCode(t, piece(api.Set, 0, 0, behind...), c.want)
	}
}

// F2: which is told first where several are wrong.
func TestCheckFirst(t *testing.T) {
	window, size := []byte{0, api.SetWindow, 128, 0, 0, 0}, []byte{0, api.SetFrame, 0, 0, 0, 0}
	for _, c := range []struct {
		name string
		f    api.Frame
		want int
	}{
		{"Stop of Stream 0, cut", piece(api.Stop, 0, 0, 1, 2, 3), api.CodeProto},
		{"Set of a stream, cut", piece(api.Set, 0, 1, 1, 2, 3), api.CodeProto},
		{"Set of a stream, a window too wide", piece(api.Set, 0, 1, window...), api.CodeProto},
		{"Set of a stream, with End and a Body", piece(api.Set, api.End, 1, window...), api.CodeProto},
		{"Set with End and a window too wide", piece(api.Set, api.End, 0, window...), api.CodeSize},
		{"Set with End and a frame too small", piece(api.Set, api.End, 0, size...), api.CodeSize},
		{"a window too wide, and bytes behind it", piece(api.Set, 0, 0, join(window, []byte{0})...), api.CodeSize},
		{"Ping of a stream, cut", piece(api.Ping, 0, 1, 1), api.CodeProto},
		{"Bye of a stream, cut", piece(api.Bye, 0, 1, 1), api.CodeProto},
		{"Wide by nothing, cut", piece(api.Wide, 0, 0, 0, 0), api.CodeSize},
		{"a window, then a frame", piece(api.Set, 0, 0, join(window, size)...), api.CodeFlow},
		{"a frame, then a window", piece(api.Set, 0, 0, join(size, window)...), api.CodeProto},
	} {
		t.Run(c.name, func(t *testing.T) { checkCode(t, c.f, c.want) })
	}
}

// F2: frames that nobody can send are no reason to panic.
func TestCheckStrange(t *testing.T) {
	for _, n := range []int{math.MinInt, -1, 256, math.MaxInt} {
		checkCode(t, piece(n, 0, 0, some(3)...), 0)
		checkCode(t, piece(n, n, n), 0)
		checkCode(t, piece(api.Set, 0, n), api.CodeProto)
		checkCode(t, piece(api.Data, 0, n), 0)
	}
}

// flagsOf tells the Flags that the frame at i of n must have.
func flagsOf(i, n int, end bool) (flags int) {
	if i == 0 && end {
		flags += api.End
	}
	if i == n-1 {
		flags += api.Whole
	}
	return flags
}

// F3: how many frames a block makes, what they are, and that they are the block.
func TestSplit(t *testing.T) {
	const m = api.MaxFrame
	for _, c := range []struct{ size, frames int }{
		{0, 1}, {1, 1}, {m - 1, 1}, {m, 1}, {m + 1, 2}, {2*m - 1, 2}, {2 * m, 2}, {2*m + 1, 3}, {7 * m, 7}, {7*m + 5, 8},
	} {
		for _, end := range []bool{false, true} {
			block := some(c.size)
			l := Split(9, block, end)
			if len(l) != c.frames {
				t.Fatalf("Split of %d bytes: got %d frames, want %d", c.size, len(l), c.frames)
			}
			var whole []byte
			for i, f := range l {
				kind := api.More
				if i == 0 {
					kind = api.Head
				}
				size := min(m, c.size-i*m)
				if f.Kind != kind || f.Flags != flagsOf(i, len(l), end) || f.Stream != 9 || len(f.Body) != size {
					t.Errorf("Split of %d bytes, end %v: frame %d: got %d %d %d, %d bytes", c.size, end, i, f.Kind, f.Flags, f.Stream, len(f.Body))
				}
				checkCode(t, f, 0)
				checkRead(t, encode(t, f), f, 9+size)
				whole = append(whole, f.Body...)
			}
			if !bytes.Equal(whole, block) {
				t.Errorf("Split of %d bytes: the Bodies are not the block", c.size)
			}
		}
	}
}

// F3: Split asks nothing of the stream.
func TestSplitStream(t *testing.T) {
	for _, n := range []int{0, 1, api.MaxWord, -1, math.MaxInt, math.MinInt} {
		for _, f := range Split(n, some(1500), true) {
			if f.Stream != n {
				t.Errorf("Split of stream %d: got %d", n, f.Stream)
			}
		}
	}
}

func bothWays(t *testing.T, l [][2]int, want []byte) {
	t.Helper()
	if b, err := Sets(l); err != nil || !bytes.Equal(b, want) {
		t.Errorf("Sets(%v): got %v %v, want %v", l, b, err, want)
	}
	if r, err := ReadSets(want); err != nil || !slices.Equal(r, l) {
		t.Errorf("ReadSets(%v): got %v %v, want %v", want, r, err, l)
	}
}

func refuseSets(t *testing.T, l [][2]int, want api.Errno) {
	t.Helper()
	if b, err := Sets(l); b != nil || plain.Told(err) != want {
		t.Errorf("Sets of %d: got %v %v, want %v", len(l), b, err, want)
	}
}

func refuseReadSets(t *testing.T, b []byte, want api.Errno) {
	t.Helper()
	if l, err := ReadSets(b); l != nil || plain.Told(err) != want {
		t.Errorf("ReadSets(%v): got %v %v, want %v", b, l, err, want)
	}
}

// F3: settings as bytes, and back.
func TestSets(t *testing.T) {
	bothWays(t, nil, nil)
	bothWays(t, [][2]int{}, []byte{})
	bothWays(t, [][2]int{{0, 0}}, []byte{0, 0, 0, 0, 0, 0})
	bothWays(t, [][2]int{{65535, api.MaxWord}}, []byte{255, 255, 127, 255, 255, 255})
	bothWays(t, [][2]int{{65534, api.MaxWord - 1}, {256, 1}}, []byte{255, 254, 127, 255, 255, 254, 1, 0, 0, 0, 0, 1})
	bothWays(t, [][2]int{{api.SetWindow, 2000}, {api.SetWindow, 2000}, {api.SetTable, 0x01020304}},
		[]byte{0, 4, 0, 0, 7, 208, 0, 4, 0, 0, 7, 208, 0, 1, 1, 2, 3, 4})
}

// F3: as many settings as fit, and one more.
func TestSetsFull(t *testing.T) {
	const fit = api.MaxFrame / 6
	var l [][2]int
	var want []byte
	for i := range fit {
		l = append(l, [2]int{i, i})
		want = append(want, 0, byte(i), 0, 0, 0, byte(i))
	}
	bothWays(t, l, want)
	refuseSets(t, append(l, [2]int{1, 1}), api.ErrFull)
	refuseSets(t, make([][2]int, 10*fit), api.ErrFull)
}

// F3: numbers that do not fit, at each place, and also where there are too many.
func TestSetsRange(t *testing.T) {
	for _, s := range [][2]int{
		{-1, 0}, {65536, 0}, {math.MinInt, 0}, {math.MaxInt, 0},
		{0, -1}, {0, api.MaxWord + 1}, {0, 1 << 32}, {0, math.MinInt}, {0, math.MaxInt},
	} {
		refuseSets(t, [][2]int{s}, api.ErrRange)
		for _, n := range []int{2, 170, 171, 172, 500} {
			for _, at := range []int{0, n / 2, n - 1} {
				l := make([][2]int, n)
				l[at] = s
				refuseSets(t, l, api.ErrRange)
			}
		}
	}
}

// F3: what ReadSets refuses, and which is told first.
func TestReadSetsRefuses(t *testing.T) {
	over := []byte{0, 4, 128, 0, 0, 0}
	for n := range 40 {
		if n%6 != 0 {
			refuseReadSets(t, make([]byte, n), api.ErrShape)
			refuseReadSets(t, join(over, make([]byte, n)), api.ErrShape)
		}
	}
	refuseReadSets(t, over, api.ErrOver)
	refuseReadSets(t, []byte{255, 255, 255, 255, 255, 255}, api.ErrOver)
	refuseReadSets(t, join(make([]byte, 12), over), api.ErrOver)
	refuseReadSets(t, join(over, make([]byte, 12)), api.ErrOver)
}

// F3: ReadSets has no bound of its own.
func TestReadSetsMany(t *testing.T) {
	if l, err := ReadSets(make([]byte, 171*6)); err != nil || len(l) != 171 {
		t.Errorf("ReadSets of 171 settings: got %d %v", len(l), err)
	}
}

// Settings gives them one by one, also numbers above MaxWord, and none that is cut.
func TestSettings(t *testing.T) {
	b := []byte{0, 1, 0, 0, 0, 2, 255, 255, 255, 255, 255, 255, 1, 0, 128, 0, 0, 0}
	want := [][2]int{{1, 2}, {65535, 1<<32 - 1}, {256, 1 << 31}}
	for n := range len(b) + 1 {
		if got := slices.Collect(Settings(b[:n])); !slices.Equal(got, want[:n/6]) {
			t.Errorf("Settings of %d bytes: got %v, want %v", n, got, want[:n/6])
		}
	}
	for s := range Settings(b) {
		if s != want[0] {
			t.Errorf("got %v first", s)
		}
		break
	}
}

// Number has no bound but its bytes.
func TestNumber(t *testing.T) {
	for want, b := range map[int][]byte{
		0: nil, 255: {255}, 256: {1, 0}, api.MaxWord: {127, 255, 255, 255}, 1 << 31: {128, 0, 0, 0}, 1<<32 - 1: {255, 255, 255, 255},
		1<<56 - 1: {255, 255, 255, 255, 255, 255, 255},
	} {
		if got := Number(b); got != want {
			t.Errorf("Number(%v): got %d, want %d", b, got, want)
		}
	}
	Number(some(100))
}

// P2: what comes out is fresh memory, what goes in stays.
func TestFresh(t *testing.T) {
	body := some(3000)
	before := bytes.Clone(body)
	wipe := func(b []byte) {
		for i := range b[:cap(b)] {
			b[:cap(b)][i] = 0xEE
		}
	}
	unchanged := func(what string) {
		t.Helper()
		if !bytes.Equal(body, before) {
			t.Fatalf("%s: what was handed in is changed", what)
		}
	}
	b := encode(t, piece(0, 0, 1, body[:100]...))
	wipe(b)
	unchanged("Encode")
	copy(body, []byte{0, 0, 40, 1, 1, 0, 0, 0, 5})
	before = bytes.Clone(body)
	f, _, err := Read(body)
	if err != nil {
		t.Fatal(err)
	}
	wipe(f.Body)
	unchanged("Read")
	l := Split(1, body, true)
	wipe(l[1].Body)
	unchanged("Split")
	if !bytes.Equal(l[0].Body, body[:api.MaxFrame]) || !bytes.Equal(l[2].Body, body[2*api.MaxFrame:]) {
		t.Error("Split: two Bodies share memory")
	}
	sets := [][2]int{{1, 2}, {3, 4}}
	b, _ = Sets(sets[:1])
	wipe(b)
	if sets[0] != [2]int{1, 2} || sets[1] != [2]int{3, 4} {
		t.Error("Sets: what was handed in is changed")
	}
}
