package syntax_test

import (
	"slices"
	"strings"
	"testing"

	"latchkey/api"
	"latchkey/syntax"
	"latchkey/tokens"
)

// grammar says the chapter's once more, apart from the program: what is repeated by rules that name themselves last, what may be left out by an empty way. Names with a capital ahead are rules; all in capitals, and all others, are tokens.
const grammar = `
Schema = | Type Schema | Cond Schema
Type = type NAME Relations
Relations = | relation NAME : Rewrite Relations
Cond = cond NAME ( Params ) : Either
Params = | Param MoreParams
MoreParams = | , Param MoreParams
Param = NAME : KIND
Rewrite = Unit | Unit or Unit MoreOr | Unit and Unit MoreAnd | Unit not Unit
MoreOr = | or Unit MoreOr
MoreAnd = | and Unit MoreAnd
Unit = [ Allow MoreAllows ] | NAME | NAME from NAME | ( Rewrite )
MoreAllows = | , Allow MoreAllows
Allow = NAME Whom With
Whom = | : * | # NAME
With = | with NAME
Either = Both MoreBoth
MoreBoth = | or Both MoreBoth
Both = No MoreNo
MoreNo = | and No MoreNo
No = not No | Compare
Compare = Sum | Sum Compares Sum
Compares = == | != | < | <= | > | >= | in
Sum = Product MoreSum
MoreSum = | + Product MoreSum | - Product MoreSum
Product = Minus MoreProduct
MoreProduct = | * Minus MoreProduct | / Minus MoreProduct
Minus = Value | - Minus | NAME | ( Either )
Value = true | false | Number | - Number | nan | TEXT | [ Texts ]
Texts = | TEXT MoreTexts
MoreTexts = | , TEXT MoreTexts
Number = INT | REAL | inf
`

type rules struct {
	ways   map[string][][]string
	tokens map[string]string // what hopes a token meets, beside itself
}

func newRules() rules {
	r := rules{ways: map[string][][]string{}, tokens: map[string]string{}}
	for _, line := range strings.Split(strings.TrimSpace(grammar), "\n") {
		name, ways, _ := strings.Cut(line, " = ")
		for _, way := range strings.Split(" "+ways+" ", " | ") {
			r.ways[name] = append(r.ways[name], strings.Fields(way))
		}
	}
	return r
}

// hopes are all rows of symbols that may still come, each with a token first, or empty.
type hopes [][]string

// widen takes the first symbol of each row apart until it is a token.
func (r rules) widen(row []string) hopes {
	if len(row) == 0 || r.ways[row[0]] == nil {
		return hopes{row}
	}
	var out hopes
	for _, way := range r.ways[row[0]] {
		out = append(out, r.widen(join(way, row[1:]))...)
	}
	return out
}

// behind are the hopes behind a token; none, if no text goes on with it.
func (r rules) behind(h hopes, token string) hopes {
	var out hopes
	met := map[string]bool{}
	for _, row := range h {
		if len(row) == 0 || !r.matches(row[0], token) {
			continue
		}
		if key := strings.Join(row[1:], " "); !met[key] {
			met[key] = true
			out = append(out, r.widen(row[1:])...)
		}
	}
	return out
}

// matches says whether a token, as it is written, is what a row hopes for.
func (r rules) matches(hope, token string) bool {
	if _, known := r.tokens[token]; !known {
		r.tokens[token] = classes(token)
	}
	return hope == token || strings.Contains(r.tokens[token], hope)
}

func classes(token string) string {
	l, _ := tokens.Scan(token)
	switch l[0].Kind {
	case api.TokName:
		if slices.Contains(strings.Fields("bool int real text texts"), token) {
			return "NAME KIND"
		}
		return "NAME"
	case api.TokInt:
		return "INT"
	case api.TokReal:
		return "REAL"
	case api.TokText:
		return "TEXT"
	}
	return ""
}

func (h hopes) whole() bool {
	for _, row := range h {
		if len(row) == 0 {
			return true
		}
	}
	return false
}

// walk goes along all rows of at most deep tokens of the alphabet that begin a text, and calls see with each of them, and with each that has one token more with which no text goes on: wrong is that token's place, -1 where there is none.
func (r rules) walk(h hopes, row []string, alphabet []string, deep int, see func(row []string, whole bool, wrong int)) {
	see(row, h.whole(), -1)
	for _, token := range alphabet {
		next := r.behind(h, token)
		longer := join(row, []string{token})
		if len(next) == 0 {
			see(longer, false, len(row))
		} else if deep > 0 {
			r.walk(next, longer, alphabet, deep-1, see)
		}
	}
}

// wantByGrammar holds what a call says of all rows against the grammar.
func wantByGrammar(t *testing.T, rule, begin, alphabet string, deep int, parse func(text string) api.Spot) {
	t.Helper()
	r := newRules()
	h := r.widen([]string{rule})
	row := strings.Fields(begin)
	for _, token := range row {
		h = r.behind(h, token)
	}
	wholes := 0
	r.walk(h, row, strings.Fields(alphabet), deep, func(row []string, whole bool, wrong int) {
		text := strings.Join(row, " ")
		want := api.Spot{}
		switch {
		case whole:
			wholes++
		case wrong < 0:
			want = spot(api.ErrSyntax, len(text)+1)
		default:
			want = spot(api.ErrSyntax, len(text)-len(row[wrong])+1)
		}
		if got := parse(text); got != want {
			t.Errorf("%q: %+v, want %+v", text, got, want)
		}
		if wrong < 0 {
			return
		}
		// What stands behind the wrong token changes nothing.
		for _, tail := range []string{" a", " ) )", "\n= 99999999999999999999"} {
			if got := parse(text + tail); got != want {
				t.Errorf("%q: %+v, want %+v", text+tail, got, want)
			}
		}
	})
	if wholes == 0 {
		t.Errorf("no text of %s was whole", rule)
	}
}

func rewriteSpot(text string) api.Spot {
	_, s := syntax.ParseRewrite(text)
	return s
}

func exprSpot(text string) api.Spot {
	_, s := syntax.ParseExpr(text)
	return s
}

func schemaSpot(text string) api.Spot {
	_, s := syntax.Parse(text)
	return s
}

// P6.2, P6.4: the token at which a text is refused, of all short texts.
func TestRewritesByGrammar(t *testing.T) {
	wantByGrammar(t, "Rewrite", "", `a from with or and not ( ) [ ] , : # * - 7 "or" "a" "(" type int = ==`, 4, rewriteSpot)
	wantByGrammar(t, "Rewrite", "", "a from or and not ( ) [ ]", 6, rewriteSpot)
	wantByGrammar(t, "Rewrite", "a or ( a", "a or and not ( )", 6, rewriteSpot)
	wantByGrammar(t, "Rewrite", "[ a", "a , : # * with or ]", 7, rewriteSpot)
}

func TestExprsByGrammar(t *testing.T) {
	wantByGrammar(t, "Either", "", `a 7 1.5 inf nan true false "in" "(" "-" - + * / == != < <= > >= in and or not ( ) [ ] , = : # type from`, 2, exprSpot)
	wantByGrammar(t, "Either", "", "a 7 - + == or not ( )", 5, exprSpot)
	wantByGrammar(t, "Either", "", "a - * in and not", 6, exprSpot)
	wantByGrammar(t, "Either", "a <= ( not a", "a < / and not ( )", 5, exprSpot)
	wantByGrammar(t, "Either", "", `- [ ] , "x" ) nan`, 7, exprSpot)
}

func TestSchemasByGrammar(t *testing.T) {
	wantByGrammar(t, "Schema", "", `type relation cond a int : ( ) [ ] , "type" true 7 or`, 7, schemaSpot)
	wantByGrammar(t, "Schema", "cond c (", "a int bool real text texts number : , ) type true", 7, schemaSpot)
	wantByGrammar(t, "Schema", "type a relation b : ( a )", "type relation cond a : or and ( )", 7, schemaSpot)
	wantByGrammar(t, "Schema", "cond c ( ) : a", "type relation cond a : - == or ( )", 5, schemaSpot)
}
