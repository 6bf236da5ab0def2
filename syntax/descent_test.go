package syntax_test

import (
	"slices"
	"strconv"
	"strings"
	"testing"

	"latchkey/api"
	"latchkey/reals"
	"latchkey/syntax"
	"latchkey/tokens"
)

// descent reads trees once more, apart from the program, by one function for each of the chapter's rules. It asks for nothing: it is handed texts that may be.
type descent struct {
	l []api.Token
}

func newDescent(text string) *descent {
	l, _ := tokens.Scan(text)
	return &descent{l}
}

// at says whether one of these stands here, as a mark or a word.
func (d *descent) at(texts ...string) bool {
	for _, s := range texts {
		if t := d.l[0]; t.Text == s && (t.Kind == api.TokMark || t.Kind == api.TokWord) {
			return true
		}
	}
	return false
}

func (d *descent) take() string {
	s := d.l[0].Text
	d.l = d.l[1:]
	return s
}

func (d *descent) schema() api.Schema {
	var s api.Schema
	for d.l[0].Kind != api.TokEnd {
		switch d.take() {
		case "type":
			s.Types = append(s.Types, api.Type{Name: d.take()})
		case "relation":
			t := &s.Types[len(s.Types)-1]
			name := d.take()
			d.take()
			t.Relations = append(t.Relations, api.Relation{Name: name, Rewrite: d.rewrite()})
		case "cond":
			s.Conds = append(s.Conds, d.cond())
		}
	}
	return s
}

func (d *descent) cond() api.Cond {
	c := api.Cond{Name: d.take()}
	for d.take() != ")" {
		if d.at(")") {
			continue
		}
		name := d.take()
		d.take()
		kind := slices.Index(strings.Fields("none bool int real text texts"), d.take())
		c.Params = append(c.Params, api.Param{Name: name, Kind: kind})
	}
	d.take()
	c.Expr = d.either()
	return c
}

func (d *descent) rewrite() []api.Node {
	kids := [][]api.Node{d.unit()}
	join := ""
	for d.at("or", "and", "not") {
		join = d.take()
		kids = append(kids, d.unit())
	}
	switch join {
	case "or":
		return or(kids...)
	case "and":
		return and(kids...)
	case "not":
		return not(kids[0], kids[1])
	}
	return kids[0]
}

func (d *descent) unit() []api.Node {
	switch {
	case d.at("("):
		d.take()
		l := d.rewrite()
		d.take()
		return l
	case d.at("["):
		var l []api.Allow
		for d.take() != "]" {
			l = append(l, d.allow())
		}
		return this(l...)
	}
	name := d.take()
	if d.at("from") {
		d.take()
		return from(name, d.take())
	}
	return same(name)
}

func (d *descent) allow() api.Allow {
	a := api.Allow{Type: d.take()}
	for !d.at(",", "]") {
		switch d.take() {
		case ":":
			a.All = d.take() == "*"
		case "#":
			a.Rel = d.take()
		case "with":
			a.Cond = d.take()
		}
	}
	return a
}

// left reads what stands with these operations between, leaning to the left.
func (d *descent) left(signs string, kinds []int, next func() []api.Part) []api.Part {
	l := next()
	all := strings.Fields(signs)
	for d.at(all...) {
		sign := d.take()
		for i, s := range all {
			if s == sign {
				l = part(kinds[i], l, next())
			}
		}
	}
	return l
}

func (d *descent) either() []api.Part { return d.left("or", []int{api.PartEither}, d.both) }

func (d *descent) both() []api.Part { return d.left("and", []int{api.PartBoth}, d.no) }

func (d *descent) no() []api.Part {
	if d.at("not") {
		d.take()
		return part(api.PartNo, d.no())
	}
	return d.left("== != < <= > >= in", []int{api.PartIs, api.PartIsNot, api.PartBelow, api.PartAtMost, api.PartAbove, api.PartAtLeast, api.PartIn}, d.sum)
}

func (d *descent) sum() []api.Part {
	return d.left("+ -", []int{api.PartPlus, api.PartLess}, d.product)
}

func (d *descent) product() []api.Part {
	return d.left("* /", []int{api.PartTimes, api.PartOver}, d.minus)
}

func (d *descent) minus() []api.Part {
	sign := ""
	if d.at("-") {
		next := d.l[1]
		if next.Kind != api.TokInt && next.Kind != api.TokReal && (next.Kind != api.TokWord || next.Text != "inf") {
			d.take()
			return minus(d.minus())
		}
		sign = d.take()
	}
	switch t := d.l[0]; {
	case d.at("("):
		d.take()
		l := d.either()
		d.take()
		return l
	case d.at("["):
		var l []string
		for d.take() != "]" {
			if !d.at("]") {
				l = append(l, d.take())
			}
		}
		return list(l...)
	case d.at("true", "false"):
		return value(api.Value{Kind: api.ValBool, Bool: d.take() == "true"})
	case t.Kind == api.TokInt:
		n, _ := strconv.ParseInt(sign+d.take(), 10, 64)
		return whole(n)
	case t.Kind == api.TokText:
		return text(d.take())
	case t.Kind == api.TokName:
		return param(d.take())
	}
	x, _ := reals.Parse(sign + d.take())
	return real32(x)
}

// P6.2, P6.4: the trees of all short texts.
func TestTreesOfRewrites(t *testing.T) {
	for _, alphabet := range []string{"a from or and not ( ) [ ]", "a , : # * with not [ ]"} {
		eachWhole("Rewrite", alphabet, 6, func(text string) {
			got, spot := syntax.ParseRewrite(text)
			if want := newDescent(text).rewrite(); spot != (api.Spot{}) || !sameRewrite(got, want) {
				t.Errorf("ParseRewrite(%q) = %s, %+v, want %s", text, show(got), spot, show(want))
			}
		})
	}
}

func TestTreesOfExprs(t *testing.T) {
	for alphabet, deep := range map[string]int{
		"a 7 - + == or not ( )":               5,
		"a * / - and in":                      7,
		`- inf nan [ ] "a" , >= 1.5 true`:     5,
		"a not and or ( )":                    7,
		"a <= + * -":                          7,
		"a == != < <= > >= in + - * / or and": 5,
		"a or and == + *":                     9,
	} {
		eachWhole("Either", alphabet, deep, func(text string) {
			got, spot := syntax.ParseExpr(text)
			if want := newDescent(text).either(); spot != (api.Spot{}) || !sameExpr(got, want) {
				t.Errorf("ParseExpr(%q) = %s, %+v, want %s", text, show(got), spot, show(want))
			}
		})
	}
}

func TestTreesOfSchemas(t *testing.T) {
	for _, alphabet := range []string{"type relation cond a : ( ) or int", "cond a ( ) : , int true", "type cond a ( ) : texts bool real text"} {
		eachWhole("Schema", alphabet, 9, func(text string) {
			got, spot := syntax.Parse(text)
			if want := newDescent(text).schema(); spot != (api.Spot{}) || !syntax.Same(got, want) {
				t.Errorf("Parse(%q) = %s, %+v, want %s", text, show(got), spot, show(want))
			}
		})
	}
}

// eachWhole calls see with each text of the rule that has at most deep tokens of the alphabet.
func eachWhole(rule, alphabet string, deep int, see func(text string)) {
	r := newRules()
	r.walk(r.widen([]string{rule}), nil, strings.Fields(alphabet), deep, func(row []string, whole bool, _ int) {
		if whole {
			see(strings.Join(row, " "))
		}
	})
}
