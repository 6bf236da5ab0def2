package tokens

import (
	"latchkey/api"
	"latchkey/ident"
)

// none is the kind of what is no piece.
const none = 0

// found is the piece with which a text begins: its kind, what it means and how many bytes it has. Of a text that begins with none, size is how many of its bytes begin one.
type found struct {
	kind int
	text string
	size int
}

func refused(size int) found {
	return found{kind: none, size: size}
}

// class is what a character may begin or go on with.
type class int

const (
	strange class = iota // stands in texts and remarks, if anywhere
	blank
	letter
	digit
	under
	quote
	single  // a mark by itself
	compare // a mark, with an = behind it or none
	half    // a mark only with an = behind it
)

// classOf takes what is above 127 as strange, be it a character or a byte that is none: outside of texts and remarks neither may stand.
func classOf(c rune) class {
	switch {
	case c >= 'a' && c <= 'z':
		return letter
	case c >= '0' && c <= '9':
		return digit
	}
	switch c {
	case ' ', '\t', '\n', '\r':
		return blank
	case '_':
		return under
	case '"':
		return quote
	case '[', ']', '(', ')', ',', ':', '#', '*', '+', '-', '/':
		return single
	case '=', '<', '>':
		return compare
	case '!':
		return half
	}
	return strange
}

// joins says whether a character right behind a row or a number would have to be part of it.
func joins(c rune) bool {
	k := classOf(c)
	return k == letter || k == digit || k == under
}

// piece finds the piece with which the text begins; blanks and remarks are taken away already.
func piece(text string) found {
	if text == "" {
		return refused(0)
	}
	switch k := classOf(rune(text[0])); k {
	case letter:
		return row(text)
	case digit:
		return number(text)
	case quote:
		return quoted(text)
	case single:
		return mark(text, 1)
	case compare, half:
		if len(text) > 1 && text[1] == '=' {
			return mark(text, 2)
		}
		if k == compare {
			return mark(text, 1)
		}
		return refused(1)
	}
	return refused(0)
}

func mark(text string, size int) found {
	return found{kind: api.TokMark, text: text[:size], size: size}
}

func row(text string) found {
	size := len(text)
	for i, c := range text {
		if !joins(c) {
			size = i
			break
		}
		if i == api.MaxName {
			return refused(i)
		}
	}
	f := found{kind: api.TokName, text: text[:size], size: size}
	// All that a row lacks to be a name is that it is none of the words.
	if !ident.Name(f.text) {
		f.kind = api.TokWord
	}
	return f
}

// The states of a number, by what was read last.
const (
	broken = iota
	whole  // a digit ahead of the point
	point
	part // a digit behind the point
	power
	minus
	exponent // a digit behind the e
)

func number(text string) found {
	state := whole
	for i, c := range text {
		next := step(state, c)
		if next == broken && joins(c) {
			return refused(i)
		}
		if next == broken {
			return ended(text, i, state)
		}
		state = next
	}
	return ended(text, len(text), state)
}

// step is the state of a number behind one more character.
func step(state int, c rune) int {
	isDigit := classOf(c) == digit
	switch {
	case isDigit && state == point:
		return part
	case isDigit && (state == power || state == minus):
		return exponent
	case isDigit:
		return state
	case c == '.' && state == whole:
		return point
	case c == 'e' && state == part:
		return power
	case c == '-' && state == power:
		return minus
	}
	return broken
}

// ended is the number of that many bytes, if it may end in that state.
func ended(text string, size, state int) found {
	switch state {
	case whole:
		return found{kind: api.TokInt, text: text[:size], size: size}
	case part, exponent:
		return found{kind: api.TokReal, text: text[:size], size: size}
	}
	return refused(size)
}
