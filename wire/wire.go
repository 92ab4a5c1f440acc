// Package wire has numbers as bytes.
package wire

import (
	"tollgate/api"
)

const (
	maxBits = 8   // free bits of the first byte
	maxRest = 5   // bytes behind the first that MaxWord can need
	maxSize = 4   // bytes of a number of fixed size
	low     = 127 // the bits of a later byte that tell of the number
	more    = 128 // stands in a later byte that is not the last
)

// Put writes a number behind the high bits of a byte.
func Put(n, bits, first int) ([]byte, error) {
	if n < 0 || n > api.MaxWord || !mayBits(bits) || !mayFirst(first, bits) {
		return nil, api.ErrRange
	}
	m := greatest(bits)
	if n < m {
		return []byte{byte(first | n)}, nil
	}
	b := []byte{byte(first | m)}
	rest := n - m
	for ; rest >= more; rest >>= 7 {
		b = append(b, byte(rest&low|more))
	}
	return append(b, byte(rest)), nil
}

// Get reads a number.
func Get(b []byte, bits int) (n, used int, err error) {
	if !mayBits(bits) {
		return 0, 0, api.ErrRange
	}
	if len(b) == 0 {
		return 0, 0, api.ErrShort
	}
	m := greatest(bits)
	n = int(b[0]) & m
	if n < m {
		return n, 1, nil
	}
	for i, c := range b[1:] {
		// The checks below end this at maxRest bytes, so the shift stays small.
		n += int(c&low) << (7 * i)
		switch {
		case n > api.MaxWord, i == maxRest-1 && c >= more:
			return 0, 0, api.ErrOver
		case i > 0 && c == 0:
			return 0, 0, api.ErrSyntax
		case c < more:
			return n, i + 2, nil
		}
	}
	return 0, 0, api.ErrShort
}

// Big writes a number, the high bytes first.
func Big(n, size int) ([]byte, error) {
	if !maySize(size) || n < 0 || n > holds(size) {
		return nil, api.ErrRange
	}
	b := make([]byte, size)
	for i := range b {
		b[size-1-i] = byte(n >> (8 * i))
	}
	return b, nil
}

// Read reads such a number.
func Read(b []byte, size int) (int, error) {
	if !maySize(size) {
		return 0, api.ErrRange
	}
	if len(b) < size {
		return 0, api.ErrShort
	}
	n := 0
	for _, c := range b[:size] {
		n = n<<8 | int(c)
	}
	if n > api.MaxWord {
		return 0, api.ErrOver
	}
	return n, nil
}

func mayBits(bits int) bool { return bits >= 1 && bits <= maxBits }

func maySize(size int) bool { return size >= 1 && size <= maxSize }

// mayFirst tells whether first is a byte that leaves the low bits to the number.
func mayFirst(first, bits int) bool {
	return first >= 0 && first <= 255 && first&greatest(bits) == 0
}

// greatest number of so many bits.
func greatest(bits int) int { return 1<<bits - 1 }

// holds tells the greatest number that size bytes may stand for.
func holds(size int) int { return min(greatest(8*size), api.MaxWord) }
