package run

import (
	"strings"
	"testing"
)

func TestFrame(t *testing.T) {
	alone(t,
		said{"frame 000000000000000001", "0 0 1 0 0"}, said{"frame 000000ffff7fffffff", "255 255 2147483647 0 0"}, said{"frame 0000030802000102030a0b0c", "8 2 66051 3 0"}, said{"frame 000001010500000003ff", "1 5 3 1 0"},
		said{"frame 0000080500000000000001020304050607", "5 0 0 8 0"}, said{"frame 0000080500000000000001020304050607ff", "5 0 0 8 0"}, said{"frame 00000805000000000000010203040506", "ErrShort"},
		said{"frame 000000000000000001000000000000000003", "0 0 1 0 0"}, said{"frame 00000000000000000100", "0 0 1 0 0"}, said{"frame 000001000000000001ffff", "0 0 1 1 0"},
		said{"frame 000400000000000001" + strings.Repeat("ab", 1024), "0 0 1 1024 0"}, said{"frame 000400000000000001" + strings.Repeat("ab", 1025), "0 0 1 1024 0"},
		said{"frame ", "ErrShort"}, said{"frame 00", "ErrShort"}, said{"frame 0000000000000000", "ErrShort"}, said{"frame ffffffffffffffff", "ErrShort"}, said{"frame 000001000000000001", "ErrShort"}, said{"frame 000002000000000001ff", "ErrShort"}, said{"frame 000400000000000001" + strings.Repeat("ab", 1023), "ErrShort"},
		said{"frame 000401000000000001", "ErrFull"}, said{"frame ffffff000000000001", "ErrFull"}, said{"frame 000401000080000000", "ErrFull"}, said{"frame 000401000000000001" + strings.Repeat("ab", 1025), "ErrFull"},
		said{"frame 000000000080000000", "ErrOver"}, said{"frame 0000000000ffffffff", "ErrOver"}, said{"frame 000001000080000000", "ErrOver"},
	)
}

// What Check says of frames that come.
func TestFrameWrong(t *testing.T) {
	alone(t,
		said{"frame 000000000000000000", "0 0 0 0 1"}, said{"frame 000000010000000000", "1 0 0 0 1"}, said{"frame 000000020000000000", "2 0 0 0 1"}, said{"frame 000000030000000000", "3 0 0 0 1"},
		said{"frame 000000040000000001", "4 0 1 0 1"}, said{"frame 000000050000000001", "5 0 1 0 1"}, said{"frame 000000060000000001", "6 0 1 0 1"},
		said{"frame 000003030000000001000000", "3 0 1 3 6"}, said{"frame 00000403000000000100000000", "3 0 1 4 0"}, said{"frame 0000050300000000010000000000", "3 0 1 5 6"},
		said{"frame 000000040000000000", "4 0 0 0 0"}, said{"frame 000000040100000000", "4 1 0 0 0"}, said{"frame 0000050400000000000004000000", "4 0 0 5 6"}, said{"frame 000006040000000000000400000000", "4 0 0 6 0"}, said{"frame 000006040100000000000400000000", "4 1 0 6 6"},
		said{"frame 00000604000000000000047fffffff", "4 0 0 6 0"}, said{"frame 000006040000000000000480000000", "4 0 0 6 3"}, said{"frame 0000060400000000000005000003ff", "4 0 0 6 1"}, said{"frame 000006040000000000000500000400", "4 0 0 6 0"},
		said{"frame 00000705000000000000010203040506", "5 0 0 7 6"}, said{"frame 00000706000000000000010203040506", "6 0 0 7 6"}, said{"frame 0000080600000000000001020304050607", "6 0 0 8 0"}, said{"frame 000009060000000000000102030405060708", "6 0 0 9 0"},
		said{"frame 000003070000000000000001", "7 0 0 3 6"}, said{"frame 00000407000000000000000000", "7 0 0 4 1"}, said{"frame 00000407000000000000000001", "7 0 0 4 0"}, said{"frame 0000040700000000017fffffff", "7 0 1 4 0"}, said{"frame 00000407000000000180000000", "7 0 1 4 1"},
		said{"frame 000000080000000000", "8 0 0 0 0"},
	)
}
