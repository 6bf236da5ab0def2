package syntax

import (
	"strconv"

	"latchkey/api"
	"latchkey/reals"
)

// isNumber says whether a token is what a minus right ahead of it belongs to.
func isNumber(t api.Token) bool {
	return t.Kind == api.TokInt || t.Kind == api.TokReal || isWord(t, "inf")
}

// value reads a value.
func (p *place) value() api.Value {
	switch t := p.token(); {
	case isWord(t, "true"), isWord(t, "false"):
		p.step()
		return api.Value{Kind: api.ValBool, Bool: t.Text == "true"}
	case isWord(t, "nan"):
		return p.realValue("")
	case t.Kind == api.TokText:
		return api.Value{Kind: api.ValText, Text: p.text()}
	case p.mark("["):
		return api.Value{Kind: api.ValTexts, Texts: p.texts()}
	}
	sign := ""
	if p.mark("-") {
		sign = "-"
	}
	return p.number(sign)
}

// number reads a number that has the sign.
func (p *place) number(sign string) api.Value {
	switch t := p.token(); {
	case !isNumber(t):
		p.refuse(api.ErrSyntax)
	case t.Kind == api.TokInt:
		return p.intValue(sign)
	}
	return p.realValue(sign)
}

func (p *place) intValue(sign string) api.Value {
	n, err := strconv.ParseInt(sign+p.token().Text, 10, 64)
	if err != nil {
		p.refuse(api.ErrValue)
	}
	p.step()
	return api.Value{Kind: api.ValInt, Int: n}
}

func (p *place) realValue(sign string) api.Value {
	x, e := reals.Parse(sign + p.token().Text)
	if e != api.OK {
		p.refuse(api.ErrValue)
	}
	p.step()
	return api.Value{Kind: api.ValReal, Real: x}
}

// text reads a text that is a value, or one of a list.
func (p *place) text() string {
	if t := p.token(); t.Kind == api.TokText && len(t.Text) > api.MaxBytes {
		p.refuse(api.ErrValue)
	}
	return p.need(api.TokText)
}

// texts reads a list behind the bracket that opens it.
func (p *place) texts() []string {
	if p.mark("]") {
		return nil
	}
	l := []string{p.text()}
	for p.mark(",") {
		if len(l) == api.MaxItems && p.token().Kind == api.TokText {
			p.refuse(api.ErrValue)
		}
		l = append(l, p.text())
	}
	p.needMark("]")
	return l
}
