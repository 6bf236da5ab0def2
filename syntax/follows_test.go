package syntax_test

import (
	"math/rand"
	"strings"
	"testing"

	"latchkey/api"
	"latchkey/syntax"
	"latchkey/tokens"
)

// maker makes trees by chance, the same ones each time.
type maker struct {
	*rand.Rand
}

func newMaker(seed int64) maker { return maker{rand.New(rand.NewSource(seed))} }

func pick[T any](m maker, l []T) T { return l[m.Intn(len(l))] }

func (m maker) name() string {
	return pick(m, []string{"a", "b", "int", "texts", "order", "z_9", times("n", 32)})
}

func (m maker) rewrite(deep int) []api.Node {
	if deep <= 1 || m.Intn(3) == 0 {
		switch m.Intn(3) {
		case 0:
			return same(m.name())
		case 1:
			return from(m.name(), m.name())
		}
		var l []api.Allow
		for range 1 + m.Intn(3) {
			a := api.Allow{Type: m.name()}
			switch m.Intn(3) {
			case 0:
				a.All = true
			case 1:
				a.Rel = m.name()
			}
			if m.Intn(2) == 0 {
				a.Cond = m.name()
			}
			l = append(l, a)
		}
		return this(l...)
	}
	kids := [][]api.Node{m.rewrite(deep - 1), m.rewrite(deep - 1)}
	kind := api.NodeOr + m.Intn(3)
	for kind != api.NodeNot && m.Intn(3) == 0 {
		kids = append(kids, m.rewrite(deep-1))
	}
	return node(kind, kids...)
}

func (m maker) expr(deep int) []api.Part {
	if deep <= 1 || m.Intn(5) == 0 {
		if m.Intn(2) == 0 {
			return param(m.name())
		}
		return literal(pick(m, []string{"true", "false", "0", "7", "-7", "9223372036854775807", "-9223372036854775808", "0.0", "-0.0", "1.5", "-1.5e10", "1.0e-45", "inf", "-inf", "nan", `""`, `"a b"`, `"// \"\n\xff"`, "[]", `["a"]`, `["a", "", "]"]`}))
	}
	kind := api.PartMinus + m.Intn(api.PartEither-api.PartMinus+1)
	if kind <= api.PartNo {
		return part(kind, m.expr(deep-1))
	}
	return part(kind, m.expr(deep-1), m.expr(deep-1))
}

func (m maker) schema() api.Schema {
	var s api.Schema
	for range m.Intn(4) {
		t := api.Type{Name: m.name()}
		for range m.Intn(4) {
			t.Relations = append(t.Relations, api.Relation{Name: m.name(), Rewrite: m.rewrite(4)})
		}
		s.Types = append(s.Types, t)
	}
	for range m.Intn(4) {
		c := api.Cond{Name: m.name(), Expr: m.expr(6)}
		for range m.Intn(4) {
			c.Params = append(c.Params, api.Param{Name: m.name(), Kind: 1 + m.Intn(5)})
		}
		s.Conds = append(s.Conds, c)
	}
	return s
}

// P6.6: where Check tells no fault, Parse of Print is the same, and Print of that the same text; so with all its rewrites and expressions.
func TestThereAndBack(t *testing.T) {
	m := newMaker(6)
	for range 3000 {
		s := m.schema()
		if f := syntax.Check(s); f.Err != api.OK {
			if f.Err != api.ErrLong {
				t.Fatalf("%+v of %s", f, show(s))
			}
			continue
		}
		text, e := syntax.Print(s)
		back, spot := syntax.Parse(text)
		again, e2 := syntax.Print(back)
		if e != api.OK || spot != (api.Spot{}) || !syntax.Same(back, s) || e2 != api.OK || again != text {
			t.Errorf("%s is printed as %q, %v, read as %s, %+v, printed as %q, %v", show(s), text, e, show(back), spot, again, e2)
		}
		for _, typ := range s.Types {
			for _, r := range typ.Relations {
				text, _ := syntax.PrintRewrite(r.Rewrite)
				wantRewriteText(t, r.Rewrite, text)
			}
		}
		for _, c := range s.Conds {
			text, _ := syntax.PrintExpr(c.Expr)
			wantExprText(t, c.Expr, text)
		}
	}
}

// spelled writes an expression with parentheses around every part that is made of others.
func spelled(l []api.Part) (string, []api.Part) {
	x := l[0]
	switch {
	case x.Kind <= api.PartParam:
		s, _ := syntax.PrintExpr(l[:1])
		return s, l[1:]
	case x.Kind <= api.PartNo:
		s, rest := spelled(l[1:])
		return "(" + signs()[x.Kind] + "(" + s + "))", rest
	}
	a, rest := spelled(l[1:])
	b, rest := spelled(rest)
	return "((" + a + ")" + signs()[x.Kind] + "(" + b + "))", rest
}

// P6.2, P6.4: what has parentheses everywhere is read as it stands, whatever the ranks.
func TestSpelledOut(t *testing.T) {
	m := newMaker(7)
	for range 3000 {
		l := m.expr(6)
		s, _ := spelled(l)
		if len(l) <= api.MaxParts {
			wantExpr(t, s, l)
		}
	}
}

// without takes away, one pair after the other, the parentheses of a text, and calls see with what is left.
func without(text string, see func(string)) {
	l, _ := tokens.Scan(text)
	var open []int
	for i, x := range l {
		if x.Kind != api.TokMark {
			continue
		}
		switch x.Text {
		case "(":
			open = append(open, i)
		case ")":
			from := l[open[len(open)-1]].Col - 1
			open = open[:len(open)-1]
			to := x.Col - 1
			see(text[:from] + " " + text[from+1:to] + " " + text[to+1:])
		}
	}
}

// P6.4: an own text has no parentheses without need: without a pair of them it is another tree, or none.
func TestNoNeedlessParentheses(t *testing.T) {
	m := newMaker(8)
	for range 2000 {
		l := m.expr(6)
		text, e := syntax.PrintExpr(l)
		if e != api.OK {
			continue
		}
		without(text, func(s string) {
			if got, spot := syntax.ParseExpr(s); spot.Err == api.OK && sameExpr(got, l) {
				t.Errorf("%q is the same as %q", s, text)
			}
		})
		r := m.rewrite(4)
		text, e = syntax.PrintRewrite(r)
		if e != api.OK {
			continue
		}
		without(text, func(s string) {
			if got, spot := syntax.ParseRewrite(s); spot.Err == api.OK && sameRewrite(got, r) {
				t.Errorf("%q is the same as %q", s, text)
			}
		})
	}
}

// laid writes the tokens of a text once more, with other gaps between them.
func (m maker) laid(text string) string {
	l, _ := tokens.Scan(text)
	gaps := []string{" ", "\n", "\t\r", "  ", " // x ( or\n", "\n//\n\n", " // \" é\n\t"}
	var b strings.Builder
	for i, x := range l[:len(l)-1] {
		piece, _ := tokens.Print([]api.Token{x})
		if i > 0 && m.mustPart(b.String(), piece) {
			b.WriteString(pick(m, gaps))
		}
		b.WriteString(piece)
	}
	return b.String() + pick(m, append(gaps, "", "// the end"))
}

// mustPart says whether something is to stand between two pieces: it must, where they would be one, and else by chance.
func (m maker) mustPart(ahead, piece string) bool {
	joins := func(c byte) bool { return c == '_' || c >= 'a' && c <= 'z' || c >= '0' && c <= '9' }
	c, d := ahead[len(ahead)-1], piece[0]
	return joins(c) && joins(d) || d == '=' || c == '/' || d == '/' || c == 'e' && d == '-' || m.Intn(2) == 0
}

// P6.6: however the tokens of a text are laid out, what is read is the same; and what is refused is refused at the same token.
func TestLaidOut(t *testing.T) {
	m := newMaker(9)
	for range 1000 {
		s := m.schema()
		text, e := syntax.Print(s)
		if e != api.OK {
			continue
		}
		other := m.laid(text)
		if got, spot := syntax.Parse(other); spot != (api.Spot{}) || !syntax.Same(got, s) {
			t.Errorf("%q, laid out as %q: %s, %+v", text, other, show(got), spot)
		}
		// Broken off, the refusal is at the end of either.
		l, _ := tokens.Scan(text)
		if len(l) < 2 {
			continue
		}
		cut := l[:m.Intn(len(l))]
		short, _ := tokens.Print(cut)
		want := schemaSpot(short)
		if want.Err != api.OK && (want.Err != api.ErrSyntax || want.Col != len(short)+1) {
			t.Errorf("%q: %+v", short, want)
		}
		other = m.laid(short)
		got := schemaSpot(other)
		line := 1 + strings.Count(other, "\n")
		col := len(other) - strings.LastIndex(other, "\n")
		if got.Err != want.Err || got.Err != api.OK && (got.Line != line || got.Col != col) {
			t.Errorf("%q, laid out as %q: %+v", short, other, got)
		}
	}
}

// P6.6: where Parse reads a text, Check tells no fault of it, and it is printed and read as the same.
func TestReadIsWithoutFault(t *testing.T) {
	m := newMaker(10)
	words := strings.Fields(`type type relation relation cond a a b int : : ( ) [ ] , # * with from or and not == + - - 7 1.5 inf nan true "x"`)
	read := 0
	for range 200000 {
		row := []string{"type a relation b : a", "cond a ( ) : a", "cond a ( b : int ) : - 7", "type a"}[m.Intn(4)]
		for range m.Intn(7) {
			row += " " + pick(m, words)
		}
		s, spot := syntax.Parse(row)
		if spot.Err != api.OK {
			if spot.Err != api.ErrSyntax {
				t.Errorf("%q: %+v", row, spot)
			}
			continue
		}
		read++
		text, e := syntax.Print(s)
		back, spot := syntax.Parse(text)
		if f := syntax.Check(s); f != (api.Fault{}) || e != api.OK || spot != (api.Spot{}) || !syntax.Same(back, s) {
			t.Errorf("%q: %+v, %v, %+v", row, f, e, spot)
		}
	}
	if read < 10000 {
		t.Errorf("only %d were read", read)
	}
}
