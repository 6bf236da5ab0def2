package values

import (
	"strconv"
	"strings"

	"latchkey/api"
	"latchkey/reals"
)

const (
	trueText  = "true"
	falseText = "false"
	quote     = `"`
	openList  = "["
	closeList = "]"
	between   = ", "
	hexDigits = "0123456789abcdef"
	hexSize   = len(`\x00`)
)

// Text writes v's literal.
func Text(v api.Value) (string, api.Errno) {
	if e := Check(v); e != api.OK {
		return "", e
	}
	return literal(held(v)), api.OK
}

// literal writes what a value holds.
func literal(x any) string {
	switch x := x.(type) {
	case bool:
		return boolText(x)
	case int64:
		return strconv.FormatInt(x, 10)
	case float32:
		return reals.Text(x)
	case string:
		return quoted(x)
	case []string:
		return listed(x)
	}
	return ""
}

func boolText(x bool) string {
	if x {
		return trueText
	}
	return falseText
}

func listed(texts []string) string {
	all := make([]string, len(texts))
	for i, s := range texts {
		all[i] = quoted(s)
	}
	return openList + strings.Join(all, between) + closeList
}

func quoted(s string) string {
	b := []byte(quote)
	for i := range len(s) {
		b = appendEscaped(b, s[i])
	}
	return string(b) + quote
}

func appendEscaped(b []byte, c byte) []byte {
	switch {
	case c == '"' || c == '\\':
		return append(b, '\\', c)
	case c == '\n':
		return append(b, '\\', 'n')
	case c < 32 || c > 126:
		return append(b, '\\', 'x', hexDigits[c>>4], hexDigits[c&15])
	}
	return append(b, c)
}

// Parse reads a value's literal.
func Parse(s string) (api.Value, api.Errno) {
	// A value has one literal, but what is meant by a text may be written otherwise (01, "\x41"): only the value that would be written as s is taken.
	v := meant(s)
	if text, e := Text(v); e != api.OK || text != s {
		return api.Value{}, api.ErrValue
	}
	return v, api.OK
}

// meant answers the value whose literal s is, if there is one; else any, or none.
func meant(s string) api.Value {
	switch {
	case s == trueText || s == falseText:
		return api.Value{Kind: api.ValBool, Bool: s == trueText}
	case strings.HasPrefix(s, quote):
		return meantText(s)
	case strings.HasPrefix(s, openList):
		return meantTexts(s)
	}
	return meantNumber(s)
}

func meantNumber(s string) api.Value {
	if n, err := strconv.ParseInt(s, 10, 64); err == nil {
		return api.Value{Kind: api.ValInt, Int: n}
	}
	if x, e := reals.Parse(s); e == api.OK {
		return api.Value{Kind: api.ValReal, Real: x}
	}
	return api.Value{}
}

func meantText(s string) api.Value {
	text, _, ok := cutText(s)
	if !ok {
		return api.Value{}
	}
	return api.Value{Kind: api.ValText, Text: text}
}

func meantTexts(s string) api.Value {
	v := api.Value{Kind: api.ValTexts}
	rest := strings.TrimSuffix(strings.TrimPrefix(s, openList), closeList)
	for rest != "" {
		text, behind, ok := cutText(rest)
		if !ok {
			return api.Value{}
		}
		v.Texts = append(v.Texts, text)
		rest = strings.TrimPrefix(behind, between)
	}
	return v
}

// cutText reads the text whose literal stands at the beginning of s, and answers what stands behind it; false, if none does.
func cutText(s string) (text, behind string, ok bool) {
	var b []byte
	rest, ok := strings.CutPrefix(s, quote)
	for ok && !strings.HasPrefix(rest, quote) {
		var c byte
		c, rest, ok = cutByte(rest)
		b = append(b, c)
	}
	if !ok {
		return "", "", false
	}
	return string(b), rest[len(quote):], true
}

// cutByte reads one byte of a text, as it is written at the beginning of s, and answers what stands behind it; false, if none stands there.
func cutByte(s string) (c byte, behind string, ok bool) {
	switch {
	case s == "":
		return 0, "", false
	case s[0] != '\\':
		return s[0], s[1:], true
	case strings.HasPrefix(s, `\"`) || strings.HasPrefix(s, `\\`):
		return s[1], s[2:], true
	case strings.HasPrefix(s, `\n`):
		return '\n', s[2:], true
	case strings.HasPrefix(s, `\x`) && len(s) >= hexSize:
		n, err := strconv.ParseUint(s[2:hexSize], 16, 8)
		return byte(n), s[hexSize:], err == nil
	}
	return 0, "", false
}
