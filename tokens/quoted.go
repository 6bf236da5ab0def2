package tokens

import "latchkey/api"

// The states of a quoted text, by what is to come.
const (
	plain   = iota
	escaped // behind a backslash
	high    // behind \x
	low     // behind \x and a digit
)

// unquoting is a quoted text that is being read.
type unquoting struct {
	state int
	out   []byte
	digit byte // the high one of \x
}

// quoted reads a quoted text. What stands between escapes is taken over as bytes, not as the characters of the walk: a byte that is no character must mean itself.
func quoted(text string) found {
	var u unquoting
	from := 0
	for i, c := range text {
		switch {
		case i == 0: // the quote that opens it
		case u.state == plain && c == '"':
			u.out = append(u.out, text[from:i]...)
			return found{kind: api.TokText, text: string(u.out), size: i + 1}
		case u.state == plain && c == '\\':
			u.out = append(u.out, text[from:i]...)
			u.state = escaped
		case u.state == plain && c < ' ':
			return refused(i)
		case u.state == plain:
			continue
		case !u.escape(c):
			return refused(i)
		}
		from = i + 1
	}
	return refused(len(text))
}

// escape takes a character of an escape, or says that it can't stand there.
func (u *unquoting) escape(c rune) bool {
	switch {
	case u.state != escaped:
		return u.base16(c)
	case c == '"' || c == '\\':
		u.mean(byte(c))
	case c == 'n':
		u.mean('\n')
	case c == 'x':
		u.state = high
	default:
		return false
	}
	return true
}

// base16 takes one of the two digits behind \x.
func (u *unquoting) base16(c rune) bool {
	var d byte
	switch {
	case c >= '0' && c <= '9':
		d = byte(c - '0')
	case c >= 'a' && c <= 'f':
		d = byte(c-'a') + 10
	case c >= 'A' && c <= 'F':
		d = byte(c-'A') + 10
	default:
		return false
	}
	if u.state == high {
		u.digit, u.state = d, low
		return true
	}
	u.mean(u.digit<<4 | d)
	return true
}

// mean ends an escape with what it means.
func (u *unquoting) mean(b byte) {
	u.out = append(u.out, b)
	u.state = plain
}
