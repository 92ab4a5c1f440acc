package line

import (
	"strings"

	"tollgate/api"
)

const blank = ' '

// form of a text: it has at most MaxText bytes, and neither begins nor ends with a blank.
type form struct {
	least int               // how many bytes it has at least
	may   func(c byte) bool // asked of each byte
}

func tokenForm() form {
	return form{least: 1, may: func(c byte) bool { return isSmall(c) || isGreat(c) || isDigit(c) || c == '-' || c == '_' }}
}

func nameForm() form {
	return tokenForm().without(isGreat)
}

func pathForm() form {
	return plainForm(1).without(func(c byte) bool { return c == blank })
}

func plainForm(least int) form {
	return form{least: least, may: func(c byte) bool { return c >= 32 && c <= 126 }}
}

// without the bytes that are out.
func (f form) without(out func(c byte) bool) form {
	return form{least: f.least, may: func(c byte) bool { return f.may(c) && !out(c) }}
}

// holds tells whether a text is of the form.
func (f form) holds(s string) bool {
	for i := range len(s) {
		if !f.goesOn(i, s[i]) {
			return false
		}
	}
	return f.ends(s)
}

// goesOn tells whether a text of n bytes, that is right so far, may go on with c.
func (f form) goesOn(n int, c byte) bool {
	if n >= api.MaxText || !f.may(c) {
		return false
	}
	// Behind a blank another byte must come, and have room.
	return c != blank || n > 0 && n < api.MaxText-1
}

// ends tells whether a text that is right so far may end.
func (f form) ends(s string) bool {
	return len(s) >= f.least && !strings.HasSuffix(s, " ")
}

func isSmall(c byte) bool { return c >= 'a' && c <= 'z' }

func isGreat(c byte) bool { return c >= 'A' && c <= 'Z' }

func isDigit(c byte) bool { return c >= '0' && c <= '9' }
