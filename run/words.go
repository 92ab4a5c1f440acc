package run

import (
	"errors"
	"strconv"
	"strings"

	"tollgate/api"
)

// Words of a row that stand for something else than just a text.
const (
	numberWord = "N"
	bytesWord  = "HEX"
)

const (
	mostNumber = 999_999_999
	hexDigits  = "0123456789abcdef"
)

// errBad: a line cannot be read.
var errBad = errors.New("bad")

// words of a line that were read, of each sort in their order.
type words struct {
	numbers []int
	bytes   []byte
	texts   []string
}

// readWords reads the words of a line, each as the form says.
func readWords(form, line []string) (words, error) {
	if len(line) != len(form) {
		return words{}, errBad
	}
	var w words
	for i, s := range line {
		if err := w.add(form[i], s); err != nil {
			return words{}, err
		}
	}
	return w, nil
}

func (w *words) add(form, s string) error {
	switch form {
	case numberWord:
		n, err := readNumber(s)
		w.numbers = append(w.numbers, n)
		return err
	case bytesWord:
		b, err := readHex(s)
		w.bytes = b
		return err
	}
	w.texts = append(w.texts, s)
	return nil
}

func readNumber(s string) (int, error) {
	n, _ := strconv.Atoi(s)
	// What is no number, and one with a sign or a needless 0, would be written otherwise.
	if decimal(n) != s || n < -mostNumber || n > mostNumber {
		return 0, errBad
	}
	return n, nil
}

// decimal writes numbers, with a blank between.
func decimal(numbers ...int) string {
	var l []string
	for _, n := range numbers {
		l = append(l, strconv.Itoa(n))
	}
	return strings.Join(l, blank)
}

func readHex(s string) ([]byte, error) {
	if len(s)%2 != 0 {
		return nil, errBad
	}
	b := make([]byte, len(s)/2)
	for i, c := range []byte(s) {
		digit := strings.IndexByte(hexDigits, c)
		if digit < 0 {
			return nil, errBad
		}
		b[i/2] = b[i/2]<<4 | byte(digit)
	}
	return b, nil
}

func writeHex(b []byte) string {
	var s strings.Builder
	for _, c := range b {
		s.WriteByte(hexDigits[c>>4])
		s.WriteByte(hexDigits[c&15])
	}
	return s.String()
}

// told gives what is answered: of an error its name alone.
func told(answer string, err error) string {
	var wrong api.Errno
	switch {
	case errors.Is(err, errBad):
		return errBad.Error()
	case errors.As(err, &wrong):
		return wrong.Error()
	}
	return answer
}
