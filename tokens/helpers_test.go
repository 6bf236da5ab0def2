package tokens_test

import (
	"fmt"
	"regexp"
	"slices"
	"strconv"
	"strings"

	"latchkey/api"
)

const letters = "nwirtme"

// told writes tokens as the chapter's examples do: a letter for the kind, the text, line.column; with | between.
func told(l []api.Token) string {
	all := make([]string, len(l))
	for i, t := range l {
		all[i] = fmt.Sprintf("%s %s %d.%d", kindLetter(t.Kind), t.Text, t.Line, t.Col)
	}
	return strings.Join(all, "|")
}

func kindLetter(kind int) string {
	if kind < api.TokName || kind > api.TokEnd {
		return "?" + strconv.Itoa(kind)
	}
	return letters[kind-1 : kind]
}

func tok(letter, text string) api.Token {
	return api.Token{Kind: strings.Index(letters, letter) + 1, Text: text}
}

// bare are tokens without their places.
func bare(l []api.Token) []api.Token {
	out := slices.Clone(l)
	for i := range out {
		out[i].Line, out[i].Col = 0, 0
	}
	return out
}

func sameTokens(a, b []api.Token) bool { return slices.Equal(bare(a), bare(b)) }

func show(v any) string {
	s := fmt.Sprintf("%#v", v)
	if len(s) > 200 {
		return s[:200] + ".."
	}
	return s
}

func words() []string {
	return strings.Fields("type relation cond or and not from with in true false nan inf")
}

func marks() []string {
	return strings.Fields("[ ] ( ) , : # * + - / = == != < <= > >=")
}

func a(n int) string { return strings.Repeat("a", n) }

// eachText calls see with every text of at most deep of the pieces, one behind the other.
func eachText(pieces []string, deep int, see func(string)) {
	var grow func(text string, left int)
	grow = func(text string, left int) {
		see(text)
		if left == 0 {
			return
		}
		for _, p := range pieces {
			grow(text+p, left-1)
		}
	}
	grow("", deep)
}

// patterns say the pieces once more, as the chapter's table does, apart from the program.
type patterns struct {
	gap, row, whole, real, quoted, mark, joins, escape *regexp.Regexp
}

func newPatterns() patterns {
	longest := func(s string) *regexp.Regexp {
		r := regexp.MustCompile("^(?:" + s + ")")
		r.Longest()
		return r
	}
	return patterns{
		gap:    longest(`[ \t\n\r]|//[^\n]*`),
		row:    longest(`[a-z][a-z0-9_]{0,31}`),
		whole:  longest(`[0-9]+`),
		real:   longest(`[0-9]+\.[0-9]+(e-?[0-9]+)?`),
		quoted: longest(`"([^\x00-\x1f"\\]|\\["\\n]|\\x[0-9a-fA-F]{2})*"`),
		mark:   longest(`\[|\]|\(|\)|,|:|#|\*|\+|-|/|=|==|!=|<|<=|>|>=`),
		joins:  longest(`[a-z0-9_]`),
		escape: regexp.MustCompile(`\\(["\\n]|x..)`),
	}
}

// meaning is what stands between the quotes.
func (p patterns) meaning(piece string) string {
	inner := piece[1 : len(piece)-1]
	return p.escape.ReplaceAllStringFunc(inner, func(s string) string {
		switch s[1] {
		case 'n':
			return "\n"
		case 'x':
			n, _ := strconv.ParseUint(s[2:], 16, 8)
			return string([]byte{byte(n)})
		}
		return s[1:]
	})
}

// at is a token of the place where what is left of the text begins.
func at(text, rest string, t api.Token) api.Token {
	ahead := text[:len(text)-len(rest)]
	t.Line = 1 + strings.Count(ahead, "\n")
	t.Col = len(ahead) - strings.LastIndex(ahead, "\n")
	return t
}

// first is the piece with which rest begins, and how long it is; none, if it begins with none that may stand there.
func (p patterns) first(rest string) (api.Token, int) {
	row, whole, real := p.row.FindString(rest), p.whole.FindString(rest), p.real.FindString(rest)
	closed := max(len(row), len(whole), len(real))
	if closed > 0 && p.joins.MatchString(rest[closed:]) {
		return api.Token{}, 0
	}
	switch quoted := p.quoted.FindString(rest); {
	case row != "" && slices.Contains(words(), row):
		return tok("w", row), closed
	case row != "":
		return tok("n", row), closed
	case real != "":
		return tok("r", real), closed
	case whole != "":
		return tok("i", whole), closed
	case quoted != "":
		return tok("t", p.meaning(quoted)), len(quoted)
	}
	mark := p.mark.FindString(rest)
	return tok("m", mark), len(mark)
}

// tokens are those of a text that may be.
func (p patterns) tokens(text string) ([]api.Token, bool) {
	var out []api.Token
	rest := text
	for rest != "" {
		if gap := p.gap.FindString(rest); gap != "" {
			rest = rest[len(gap):]
			continue
		}
		t, n := p.first(rest)
		if n == 0 {
			return nil, false
		}
		out = append(out, at(text, rest, t))
		rest = rest[n:]
	}
	return append(out, at(text, "", tok("e", ""))), true
}

// begins says whether some text that may be begins with these bytes: each piece that is broken off is ended by one of few ends.
func (p patterns) begins(text string) bool {
	for _, end := range []string{"", "0", `"`, `""`, `n"`, `0"`, `00"`, "="} {
		if _, ok := p.tokens(text + end); ok {
			return true
		}
	}
	return false
}

// scan is what Scan must answer.
func (p patterns) scan(text string) ([]api.Token, api.Spot) {
	if l, ok := p.tokens(text); ok {
		return l, api.Spot{}
	}
	k := len(text)
	for !p.begins(text[:k]) {
		k--
	}
	t := at(text, text[k:], api.Token{})
	return nil, api.Spot{Err: api.ErrToken, Line: t.Line, Col: t.Col}
}
