package run

import (
	"strings"
	"testing"
)

func TestPut(t *testing.T) {
	alone(t,
		said{"put 10 5 32", "2a"}, said{"put 10 5 224", "ea"}, said{"put 30 5 0", "1e"}, said{"put 31 5 0", "1f00"}, said{"put 1337 5 0", "1f9a0a"}, said{"put 1337 5 32", "3f9a0a"},
		said{"put 0 1 254", "fe"}, said{"put 1 1 254", "ff00"}, said{"put 0 8 0", "00"}, said{"put 254 8 0", "fe"}, said{"put 255 8 0", "ff00"}, said{"put 999999999 8 0", "ff8092ebdc03"},
		said{"put 10 0 0", "ErrRange"}, said{"put 10 9 0", "ErrRange"}, said{"put 10 5 1", "ErrRange"}, said{"put 10 5 16", "ErrRange"}, said{"put 10 5 256", "ErrRange"}, said{"put 10 5 -32", "ErrRange"}, said{"put -1 5 0", "ErrRange"}, said{"put 0 8 1", "ErrRange"},
	)
}

func TestGet(t *testing.T) {
	alone(t,
		said{"get 00 5", "0 1"}, said{"get 2a 5", "10 1"}, said{"get ea 5", "10 1"}, said{"get ea 8", "234 1"}, said{"get ea 1", "0 1"}, said{"get 1f00 5", "31 2"}, said{"get 1f9a0a 5", "1337 3"}, said{"get ff9a0a 5", "1337 3"},
		said{"get 0aff 5", "10 1"}, said{"get 1f9a0a0a1f 5", "1337 3"}, said{"get 01feffffff07 1", "2147483647 6"}, said{"get 01feffffff0700 1", "2147483647 6"},
		said{"get 0a 0", "ErrRange"}, said{"get 0a 9", "ErrRange"}, said{"get 1f 0", "ErrRange"}, said{"get  0", "ErrRange"},
		said{"get  8", "ErrShort"}, said{"get 1f 5", "ErrShort"}, said{"get 1f80 5", "ErrShort"}, said{"get 1f80808080 5", "ErrShort"},
		said{"get 1f8000 5", "ErrSyntax"}, said{"get 1f808080808000 5", "ErrOver"}, said{"get 1f808080808000 8", "31 1"}, said{"get 1f808000ff 5", "ErrSyntax"},
		said{"get 01ffffffff07 1", "ErrOver"}, said{"get 1f8080808008 5", "ErrOver"}, said{"get 1f8080808080 5", "ErrOver"},
	)
}

func TestCode(t *testing.T) {
	alone(t,
		said{"code e", "03"}, said{"code t", "07"}, said{"code 0", "7b"}, said{"code Q", "a8ff"}, said{"code tea", "0400bf"}, said{"code x/y", "59b43f"}, said{"code \x00", "807f"}, said{"code \xff", "ffff"}, said{"code eeee", "000000"}, said{"code eeeee", "00000003"},
		said{"bits e", "6"}, said{"bits t", "6"}, said{"bits 0", "6"}, said{"bits 1", "9"}, said{"bits Q", "9"}, said{"bits tea", "18"}, said{"bits Tea", "21"}, said{"bits x/y", "18"}, said{"bits \x00\xff", "18"}, said{"bits etaoinshrdlucmfwypvbgkxjqz-/.:0", "186"}, said{"bits 123456789", "81"},
		said{"code " + strings.Repeat("e", 400), strings.Repeat("00", 300)}, said{"code " + strings.Repeat("e", 401), strings.Repeat("00", 300) + "03"},
	)
}

func TestTake(t *testing.T) {
	play(t,
		said{"take 0", "100"}, said{"take 101", "ErrFlow"}, said{"take 99", "1"}, said{"take 2", "ErrFlow"}, said{"take -1", "ErrRange"}, said{"take 1", "0"}, said{"take 0", "0"}, said{"take 1", "ErrFlow"}, said{"take 999999999", "ErrFlow"},
		said{"give 5", "5"}, said{"take 6", "ErrFlow"}, said{"take 5", "0"},
	)
	play(t, said{"take 100", "0"}, said{"take 0", "0"}, said{"give 1", "1"})
}

func TestGive(t *testing.T) {
	play(t,
		said{"give 0", "ErrRange"}, said{"give -1", "ErrRange"}, said{"give 1", "101"}, said{"give 999999999", "1000000100"}, said{"give 999999999", "2000000099"}, said{"give 999999999", "ErrOver"}, said{"take 0", "2000000099"},
		said{"give 147483549", "ErrOver"}, said{"give 147483548", "2147483647"}, said{"give 1", "ErrOver"}, said{"give 0", "ErrRange"}, said{"take 147483648", "1999999999"}, said{"give 2", "2000000001"},
	)
}
