package tuples

import (
	"strings"

	"latchkey/api"
	"latchkey/ident"
	"latchkey/values"
)

// with stands between a tuple's key and its Cond; no text of a key has a blank.
const with = " with "

// Text answers t's text.
func Text(t api.Tuple) (string, api.Errno) {
	if !mayBe(t) {
		return "", api.ErrTuple
	}
	var b strings.Builder
	b.WriteString(keyText(t))
	if t.Cond != "" {
		b.WriteString(with + t.Cond)
	}
	writeArgs(&b, t.Args)
	return b.String(), api.OK
}

// keyText answers the text of the key of a tuple that may be.
func keyText(t api.Tuple) string {
	object, _ := ident.ObjectText(t.Object)
	subject, _ := ident.SubjectText(t.Subject)
	return object + "#" + t.Rel + "@" + subject
}

// writeArgs writes arguments that may be with their braces; of none these aren't written either.
func writeArgs(b *strings.Builder, args []api.Arg) {
	if len(args) == 0 {
		return
	}
	ahead := "{"
	for _, a := range args {
		literal, _ := values.Text(a.Value)
		b.WriteString(ahead + a.Name + ": " + literal)
		ahead = ", "
	}
	b.WriteString("}")
}

// Parse answers the tuple whose text s is.
func Parse(s string) (api.Tuple, api.Errno) {
	if len(s) > api.MaxLine {
		return api.Tuple{}, api.ErrLong
	}
	// The key comes first: in the arguments behind it any sign may stand.
	key, rest, isUnder := strings.Cut(s, with)
	t, ok := parseKey(key), true
	if isUnder {
		t.Cond, t.Args, ok = parseCond(rest)
	}
	if !ok || !mayBe(t) {
		return api.Tuple{}, api.ErrTuple
	}
	return t, api.OK
}

// parseKey reads a key. What can't be read stays zero, and with that no tuple may be.
func parseKey(s string) api.Tuple {
	object, rest, _ := strings.Cut(s, "#")
	rel, subject, _ := strings.Cut(rest, "@")
	t := api.Tuple{Rel: rel}
	t.Object, _ = ident.Object(object)
	t.Subject, _ = ident.Subject(subject)
	return t
}

// parseCond reads a Cond, which must be there, and its arguments, if there are some; whether these may be isn't asked here.
func parseCond(s string) (string, []api.Arg, bool) {
	cond, rest, hasArgs := strings.Cut(s, "{")
	if !ident.Name(cond) {
		return "", nil, false
	}
	if !hasArgs {
		return cond, nil, true
	}
	args, ok := parseArgs(rest)
	return cond, args, ok
}

// parseArgs reads one argument or more and the brace behind them, with which s must end. Where no literal stands the value stays zero, and that is none.
func parseArgs(s string) ([]api.Arg, bool) {
	var args []api.Arg
	for isNext := true; isNext; {
		name, rest, _ := strings.Cut(s, ": ")
		end := literalEnd(rest)
		value, _ := values.Parse(rest[:end])
		args = append(args, api.Arg{Name: name, Value: value})
		if rest[end:] == "}" {
			return args, true
		}
		s, isNext = strings.CutPrefix(rest[end:], ", ")
	}
	return nil, false
}

// literalEnd answers where the literal ends with which s begins: at the first comma that is in no list, or brace, outside of quotes. That it is a literal up to there isn't said.
func literalEnd(s string) int {
	inText, inList := false, false
	for i := 0; i < len(s); i++ {
		switch {
		case inText && s[i] == '\\':
			i++
		case s[i] == '"':
			inText = !inText
		case inText:
		case s[i] == '[', s[i] == ']':
			inList = s[i] == '['
		case s[i] == '}', s[i] == ',' && !inList:
			return i
		}
	}
	return len(s)
}
