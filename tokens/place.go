package tokens

import "strings"

// place is how far a text was gone through, with what its line and column are told by.
type place struct {
	at    int // how many bytes stand ahead
	line  int
	start int // where the line begins
}

func beginning() place {
	return place{line: 1}
}

func (p *place) column() int {
	return p.at - p.start + 1
}

// move goes on to a later place; it looks only at what lies between, so that all moves together cost one walk.
func (p *place) move(text string, at int) {
	for i, c := range text[p.at:at] {
		if c == '\n' {
			p.line++
			p.start = p.at + i + 1
		}
	}
	p.at = at
}

// skip tells where the blanks and remarks that stand at a place end.
func skip(text string, at int) int {
skipping:
	for at < len(text) {
		if classOf(rune(text[at])) == blank {
			at++
			continue
		}
		if !strings.HasPrefix(text[at:], "//") {
			break
		}
		for i, c := range text[at:] {
			if c == '\n' {
				at += i
				continue skipping
			}
		}
		return len(text)
	}
	return at
}
