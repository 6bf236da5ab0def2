package syntax

import "latchkey/api"

// place is a list of tokens and how far it was gone through. The last token is the end, over which nothing steps.
type place struct {
	row []api.Token
	at  int
}

func (p *place) token() api.Token {
	return p.row[p.at]
}

func (p *place) step() {
	p.at++
}

// isMark and isWord go by the kind too: a quoted text may have the bytes of either.
func isMark(t api.Token, text string) bool {
	return t.Kind == api.TokMark && t.Text == text
}

func isWord(t api.Token, text string) bool {
	return t.Kind == api.TokWord && t.Text == text
}

// mark steps over the mark, if it stands here.
func (p *place) mark(text string) bool {
	if !isMark(p.token(), text) {
		return false
	}
	p.step()
	return true
}

// word steps over the word, if it stands here.
func (p *place) word(text string) bool {
	if !isWord(p.token(), text) {
		return false
	}
	p.step()
	return true
}

func (p *place) needMark(text string) {
	if !p.mark(text) {
		p.refuse(api.ErrSyntax)
	}
}

// need steps over a token of the kind, and answers its text.
func (p *place) need(kind int) string {
	t := p.token()
	if t.Kind != kind {
		p.refuse(api.ErrSyntax)
	}
	p.step()
	return t.Text
}

func (p *place) name() string {
	return p.need(api.TokName)
}

// refuse leaves the reading at the token that stands here.
func (p *place) refuse(e api.Errno) {
	t := p.token()
	panic(api.Spot{Err: e, Line: t.Line, Col: t.Col})
}

// following is the token behind the one that stands here, which isn't the end.
func (p *place) following() api.Token {
	return p.row[p.at+1]
}
