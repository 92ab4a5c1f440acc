package run

import "testing"

// The Limit gives one a tick, five at most.
func TestAsk(t *testing.T) {
	play(t,
		said{"ask k 0 6", "ErrRange"}, said{"ask k 0 5", "yes"}, said{"ask k 0 1", "no"}, said{"ask k 1 2", "no"}, said{"ask k 1 1", "yes"}, said{"ask k 1 1", "no"},
		said{"ask k 4 4", "no"}, said{"ask k 4 3", "yes"}, said{"ask k 9 5", "yes"}, said{"ask k 20 5", "yes"}, said{"ask k 20 1", "no"},
		said{"ask j 0 5", "yes"}, said{"ask j 0 1", "no"}, said{"ask  0 5", "yes"}, said{"ask  0 1", "no"}, said{"ask K 0 1", "yes"},
		said{"ask k 999999 5", "yes"}, said{"ask k 1000000 1", "yes"}, said{"ask k 1000000 1", "no"}, said{"ask k 1000001 1", "ErrRange"},
	)
}

func TestAskWrong(t *testing.T) {
	play(t,
		said{"ask k 5 2", "yes"}, said{"ask k 4 1", "ErrState"}, said{"ask k 0 1", "ErrState"}, said{"ask k 4 6", "ErrRange"}, said{"ask k -1 1", "ErrRange"}, said{"ask k 4 0", "ErrRange"}, said{"ask k 5 4", "no"}, said{"ask k 5 3", "yes"}, said{"ask k 5 1", "no"},
		said{"ask k 6 5", "no"}, said{"ask k 5 1", "ErrState"}, said{"ask j 5 1", "yes"}, said{"ask j 4 1", "ErrState"},
		// An error leaves no time and no key.
		said{"ask i 9 0", "ErrRange"}, said{"ask i 0 5", "yes"}, said{"ask k 1000001 1", "ErrRange"}, said{"ask k 6 1", "yes"},
	)
}

// The 101st key is one too many, those that are there ask on.
func TestAskTooMany(t *testing.T) {
	var l []said
	for c := range 100 {
		l = append(l, said{"ask " + string([]byte{byte(128 + c)}) + " 0 3", "yes"})
	}
	l = append(l,
		said{"ask k 0 1", "ErrFull"}, said{"ask  0 1", "ErrFull"}, said{"ask k 0 6", "ErrRange"}, said{"ask \x80 0 3", "no"}, said{"ask \x80 0 2", "yes"}, said{"ask \xe3 0 2", "yes"}, said{"ask \xe4 0 1", "ErrFull"})
	play(t, l...)
}
