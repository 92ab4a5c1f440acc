package wire

import (
	"bytes"
	"math"
	"testing"

	"tollgate/api"
	"tollgate/plain"
)

// odd numbers are such as no argument of any call may be.
var odd = []int{math.MinInt, math.MinInt + 1, -1 << 32, -256, -1, api.MaxWord + 1, 1 << 32, 1<<32 + 1, math.MaxInt - 1, math.MaxInt}

func checkBytes(t *testing.T, what string, got []byte, err error, want []byte, told api.Errno) {
	t.Helper()
	if !bytes.Equal(got, want) || plain.Told(err) != told {
		t.Errorf("%s: got %v %v, want %v %v", what, got, err, want, told)
	}
}

func TestPut(t *testing.T) {
	for _, c := range []struct {
		n, bits, first int
		want           []byte
	}{
		{0, 1, 0, []byte{0}},
		{1, 1, 0, []byte{1, 0}},
		{2, 1, 0, []byte{1, 1}},
		{128, 1, 0, []byte{1, 127}},
		{129, 1, 0, []byte{1, 128, 1}},
		{0, 1, 254, []byte{254}},
		{1, 1, 254, []byte{255, 0}},
		{10, 5, 0, []byte{10}},
		{30, 5, 32, []byte{62}},
		{31, 5, 32, []byte{63, 0}},
		{32, 5, 32, []byte{63, 1}},
		{1337, 5, 0, []byte{31, 154, 10}},
		{126, 7, 128, []byte{254}},
		{127, 7, 128, []byte{255, 0}},
		{128, 7, 128, []byte{255, 1}},
		{42, 8, 0, []byte{42}},
		{254, 8, 0, []byte{254}},
		{255, 8, 0, []byte{255, 0}},
		{256, 8, 0, []byte{255, 1}},
		{255 + 16383, 8, 0, []byte{255, 255, 127}},
		{255 + 16384, 8, 0, []byte{255, 128, 128, 1}},
		{api.MaxWord, 1, 0, []byte{1, 254, 255, 255, 255, 7}},
		{api.MaxWord, 8, 0, []byte{255, 128, 254, 255, 255, 7}},
		{api.MaxWord - 1, 8, 0, []byte{255, 255, 253, 255, 255, 7}},
	} {
		b, err := Put(c.n, c.bits, c.first)
		checkBytes(t, "Put", b, err, c.want, api.OK)
	}
}

func TestPutRange(t *testing.T) {
	for _, c := range [][3]int{
		{-1, 5, 0}, {api.MaxWord + 1, 5, 0},
		{1, 0, 0}, {1, 9, 0}, {1, -1, 0}, {1, 64, 0},
		{1, 5, -1}, {1, 5, 256}, {1, 5, -32},
		{0, 1, 1}, {0, 5, 1}, {0, 5, 16}, {0, 5, 31}, {0, 5, 33}, {0, 8, 1}, {0, 8, 128}, {0, 8, 255},
		{300, 5, 255}, {-1, 0, -1},
	} {
		b, err := Put(c[0], c[1], c[2])
		checkBytes(t, "Put", b, err, nil, api.ErrRange)
	}
	for _, x := range odd {
		for _, c := range [][3]int{{x, 5, 0}, {1, x, 0}, {1, 5, x}, {x, x, x}} {
			b, err := Put(c[0], c[1], c[2])
			checkBytes(t, "Put", b, err, nil, api.ErrRange)
		}
	}
}

// TestPutFirst: just those bytes may be first whose low bits are 0.
func TestPutFirst(t *testing.T) {
	for bits := 1; bits <= 8; bits++ {
		for first := range 256 {
			b, err := Put(0, bits, first)
			if first%(1<<bits) != 0 {
				checkBytes(t, "Put", b, err, nil, api.ErrRange)
			} else {
				checkBytes(t, "Put", b, err, []byte{byte(first)}, api.OK)
			}
		}
	}
}

func checkGet(t *testing.T, b []byte, bits, n, used int, told api.Errno) {
	t.Helper()
	gotN, gotUsed, err := Get(b, bits)
	if gotN != n || gotUsed != used || plain.Told(err) != told {
		t.Errorf("Get(%v, %d): got %d %d %v, want %d %d %v", b, bits, gotN, gotUsed, err, n, used, told)
	}
}

func TestGet(t *testing.T) {
	for _, c := range []struct {
		b             []byte
		bits, n, used int
	}{
		{[]byte{0}, 1, 0, 1},
		{[]byte{254, 9}, 1, 0, 1},
		{[]byte{1, 0}, 1, 1, 2},
		{[]byte{255, 0, 0}, 1, 1, 2},
		{[]byte{10}, 5, 10, 1},
		{[]byte{224 + 10, 77}, 5, 10, 1},
		{[]byte{31, 154, 10, 5}, 5, 1337, 3},
		{[]byte{255, 154, 10}, 5, 1337, 3},
		{[]byte{255, 0}, 7, 127, 2},
		{[]byte{127, 0}, 7, 127, 2},
		{[]byte{254}, 8, 254, 1},
		{[]byte{255, 0}, 8, 255, 2},
		{[]byte{255, 128, 1}, 8, 383, 3},
		{[]byte{255, 128, 128, 128, 128, 1}, 8, 255 + 1<<28, 6},
		{[]byte{1, 254, 255, 255, 255, 7, 255}, 1, api.MaxWord, 6},
		{[]byte{255, 128, 254, 255, 255, 7}, 8, api.MaxWord, 6},
	} {
		checkGet(t, c.b, c.bits, c.n, c.used, api.OK)
	}
}

func TestGetWrong(t *testing.T) {
	for _, c := range []struct {
		b    []byte
		bits int
		told api.Errno
	}{
		{nil, 0, api.ErrRange},
		{nil, 9, api.ErrRange},
		{[]byte{255, 128, 0}, 0, api.ErrRange},
		{[]byte{1}, -1, api.ErrRange},
		{nil, 1, api.ErrShort},
		{[]byte{}, 8, api.ErrShort},
		{[]byte{31}, 5, api.ErrShort},
		{[]byte{255}, 8, api.ErrShort},
		{[]byte{31, 128}, 5, api.ErrShort},
		{[]byte{31, 128, 128, 128, 128}, 5, api.ErrShort},
		{[]byte{31, 255, 255, 255, 255}, 5, api.ErrShort},
		{[]byte{31, 128, 0}, 5, api.ErrSyntax},
		{[]byte{31, 129, 0}, 5, api.ErrSyntax},
		{[]byte{31, 255, 255, 0, 255}, 5, api.ErrSyntax},
		{[]byte{31, 128, 128, 128, 128, 0}, 5, api.ErrSyntax},
		{[]byte{31, 255, 255, 255, 255, 0}, 5, api.ErrSyntax},
		{[]byte{31, 128, 128, 128, 128, 8}, 5, api.ErrOver},
		{[]byte{31, 128, 128, 128, 128, 127}, 5, api.ErrOver},
		{[]byte{1, 255, 255, 255, 255, 7}, 1, api.ErrOver},
		{[]byte{255, 129, 254, 255, 255, 7}, 8, api.ErrOver},
		{[]byte{31, 128, 128, 128, 128, 128}, 5, api.ErrOver},
		{[]byte{31, 128, 128, 128, 128, 128, 0}, 5, api.ErrOver},
		{[]byte{31, 128, 128, 128, 128, 129, 0}, 5, api.ErrOver},
		{[]byte{31, 255, 255, 255, 255, 255, 255, 255, 255, 255, 255, 0}, 5, api.ErrOver},
	} {
		checkGet(t, c.b, c.bits, 0, 0, c.told)
	}
	for _, x := range odd {
		checkGet(t, nil, x, 0, 0, api.ErrRange)
		checkGet(t, []byte{1, 2}, x, 0, 0, api.ErrRange)
	}
}

// someNumbers near which bytes are of another length.
func someNumbers(m int) (l []int) {
	for _, n := range []int{0, m, m + 1<<7, m + 1<<14, m + 1<<21, m + 1<<28, 1 << 8, 1 << 16, 1 << 24, 1 << 30, api.MaxWord} {
		for d := -2; d <= 2; d++ {
			if n+d >= 0 && n+d <= api.MaxWord {
				l = append(l, n+d)
			}
		}
	}
	return l
}

// TestPutGet: what is put is got, whatever stands behind it; a piece of it is short.
func TestPutGet(t *testing.T) {
	for bits := 1; bits <= 8; bits++ {
		m := 1<<bits - 1
		for _, n := range someNumbers(m) {
			b, err := Put(n, bits, 255-m)
			if err != nil {
				t.Fatalf("Put(%d, %d): %v", n, bits, err)
			}
			checkGet(t, b, bits, n, len(b), api.OK)
			checkGet(t, append(bytes.Clone(b), 0, 255), bits, n, len(b), api.OK)
			for i := range b {
				checkGet(t, b[:i], bits, 0, 0, api.ErrShort)
			}
		}
	}
}

// TestGetPut: what is got is put again in the same bytes, and what is not is none that is put.
func TestGetPut(t *testing.T) {
	some := []byte{0, 1, 7, 8, 127, 128, 255}
	var walk func(b []byte, bits int)
	walk = func(b []byte, bits int) {
		m := 1<<bits - 1
		n, used, err := Get(b, bits)
		switch plain.Told(err) {
		case api.OK:
			again, bad := Put(n, bits, int(b[0])&^m)
			if used != len(b) || bad != nil || !bytes.Equal(again, b) {
				t.Fatalf("Get(%v, %d) is %d, of %d bytes: Put says %v %v", b, bits, n, used, again, bad)
			}
		case api.ErrShort:
			if len(b) > 5 {
				t.Fatalf("Get(%v, %d): no number is that long", b, bits)
			}
			for _, c := range some {
				walk(append(bytes.Clone(b), c), bits)
			}
		case api.ErrSyntax:
			if b[len(b)-1] != 0 {
				t.Fatalf("Get(%v, %d): %v", b, bits, err)
			}
		case api.ErrOver:
			if len(b) != 6 {
				t.Fatalf("Get(%v, %d): %v", b, bits, err)
			}
		default:
			t.Fatalf("Get(%v, %d): %v", b, bits, err)
		}
	}
	for bits := 1; bits <= 8; bits++ {
		for first := range 256 {
			if n := 1<<bits - 1; first&n != n {
				checkGet(t, []byte{byte(first), 128}, bits, first&n, 1, api.OK)
			}
		}
		walk([]byte{byte(1<<bits - 1)}, bits)
		walk([]byte{255}, bits)
	}
}

func TestBig(t *testing.T) {
	for _, c := range []struct {
		n, size int
		want    []byte
		told    api.Errno
	}{
		{0, 1, []byte{0}, api.OK},
		{255, 1, []byte{255}, api.OK},
		{256, 1, nil, api.ErrRange},
		{0, 2, []byte{0, 0}, api.OK},
		{258, 2, []byte{1, 2}, api.OK},
		{65535, 2, []byte{255, 255}, api.OK},
		{65536, 2, nil, api.ErrRange},
		{66051, 3, []byte{1, 2, 3}, api.OK},
		{1<<24 - 1, 3, []byte{255, 255, 255}, api.OK},
		{1 << 24, 3, nil, api.ErrRange},
		{0, 4, []byte{0, 0, 0, 0}, api.OK},
		{16909060, 4, []byte{1, 2, 3, 4}, api.OK},
		{api.MaxWord - 1, 4, []byte{127, 255, 255, 254}, api.OK},
		{api.MaxWord, 4, []byte{127, 255, 255, 255}, api.OK},
		{api.MaxWord + 1, 4, nil, api.ErrRange},
		{1<<32 - 1, 4, nil, api.ErrRange},
		{-1, 1, nil, api.ErrRange},
		{-1, 4, nil, api.ErrRange},
		{0, 0, nil, api.ErrRange},
		{0, -1, nil, api.ErrRange},
		{0, 5, nil, api.ErrRange},
		{1, 8, nil, api.ErrRange},
	} {
		b, err := Big(c.n, c.size)
		checkBytes(t, "Big", b, err, c.want, c.told)
	}
	for _, x := range odd {
		for _, c := range [][2]int{{x, 1}, {x, 4}, {1, x}, {x, x}} {
			b, err := Big(c[0], c[1])
			checkBytes(t, "Big", b, err, nil, api.ErrRange)
		}
	}
}

func checkRead(t *testing.T, b []byte, size, n int, told api.Errno) {
	t.Helper()
	got, err := Read(b, size)
	if got != n || plain.Told(err) != told {
		t.Errorf("Read(%v, %d): got %d %v, want %d %v", b, size, got, err, n, told)
	}
}

func TestRead(t *testing.T) {
	for _, c := range []struct {
		b       []byte
		size, n int
		told    api.Errno
	}{
		{[]byte{0}, 1, 0, api.OK},
		{[]byte{255, 9}, 1, 255, api.OK},
		{[]byte{1, 2}, 2, 258, api.OK},
		{[]byte{255, 255}, 2, 65535, api.OK},
		{[]byte{1, 2, 3, 4}, 3, 66051, api.OK},
		{[]byte{255, 255, 255}, 3, 1<<24 - 1, api.OK},
		{[]byte{1, 2, 3, 4, 5}, 4, 16909060, api.OK},
		{[]byte{127, 255, 255, 255}, 4, api.MaxWord, api.OK},
		{[]byte{128, 0, 0, 0}, 4, 0, api.ErrOver},
		{[]byte{255, 255, 255, 255}, 4, 0, api.ErrOver},
		{nil, 1, 0, api.ErrShort},
		{[]byte{}, 4, 0, api.ErrShort},
		{[]byte{1}, 2, 0, api.ErrShort},
		{[]byte{1, 2, 3}, 4, 0, api.ErrShort},
		{[]byte{255, 255, 255}, 4, 0, api.ErrShort},
		{nil, 0, 0, api.ErrRange},
		{nil, 5, 0, api.ErrRange},
		{[]byte{1, 2, 3, 4, 5}, 5, 0, api.ErrRange},
		{[]byte{1}, 0, 0, api.ErrRange},
		{[]byte{1}, -1, 0, api.ErrRange},
	} {
		checkRead(t, c.b, c.size, c.n, c.told)
	}
	for _, x := range odd {
		checkRead(t, nil, x, 0, api.ErrRange)
		checkRead(t, []byte{128, 0, 0, 0}, x, 0, api.ErrRange)
	}
}

// TestBigRead: what is written is read, whatever stands behind it; a piece of it is short.
func TestBigRead(t *testing.T) {
	for size := 1; size <= 4; size++ {
		for _, n := range someNumbers(0) {
			if n >= 1<<(8*size) {
				continue
			}
			b, err := Big(n, size)
			if err != nil || len(b) != size {
				t.Fatalf("Big(%d, %d): %v %v", n, size, b, err)
			}
			checkRead(t, b, size, n, api.OK)
			checkRead(t, append(bytes.Clone(b), 255), size, n, api.OK)
			checkRead(t, b[:size-1], size, 0, api.ErrShort)
		}
	}
}

// TestBehind: what lies behind a list's length does not count, and nothing is written.
func TestBehind(t *testing.T) {
	all := []byte{31, 154, 10, 5}
	kept := bytes.Clone(all)
	checkGet(t, all[:2], 5, 0, 0, api.ErrShort)
	checkGet(t, all, 5, 1337, 3, api.OK)
	checkRead(t, all[:3], 4, 0, api.ErrShort)
	checkRead(t, all, 4, 530188805, api.OK)
	if !bytes.Equal(all, kept) {
		t.Errorf("written into: %v", all)
	}
}

// TestFresh: two answers share no memory.
func TestFresh(t *testing.T) {
	for _, c := range []func() ([]byte, error){
		func() ([]byte, error) { return Put(10, 5, 0) },
		func() ([]byte, error) { return Put(1337, 5, 0) },
		func() ([]byte, error) { return Big(66051, 4) },
	} {
		a, _ := c()
		kept := bytes.Clone(a)
		clear(a)
		b, err := c()
		checkBytes(t, "again", b, err, kept, api.OK)
	}
}
