package syntax_test

import (
	"math"
	"testing"

	"latchkey/api"
	"latchkey/syntax"
)

// P6.3: how a schema is laid out.
func TestLayout(t *testing.T) {
	for want, s := range map[string]api.Schema{
		"":                           {},
		"type a\n":                   {Types: []api.Type{{Name: "a"}}},
		"type a\ntype a\n":           {Types: []api.Type{{Name: "a"}, {Name: "a", Relations: []api.Relation{}}}},
		"cond c(): true\n":           cond(truth()),
		"type t\n  relation r: a\n":  relation(same("a")),
		"cond a(): b\ncond b(): a\n": {Conds: []api.Cond{{Name: "a", Expr: param("b")}, {Name: "b", Expr: param("a")}}},
		"type a\n  relation b: c\n  relation d: e\ntype f\n  relation g: h\ncond i(): j\n": {
			Types: []api.Type{
				{Name: "a", Relations: []api.Relation{{Name: "b", Rewrite: same("c")}, {Name: "d", Rewrite: same("e")}}},
				{Name: "f", Relations: []api.Relation{{Name: "g", Rewrite: same("h")}}},
			},
			Conds: []api.Cond{{Name: "i", Expr: param("j")}},
		},
		"cond c(a: bool, b: int, c: real, d: text, e: texts): a\n": {Conds: []api.Cond{{
			Name:   "c",
			Params: []api.Param{{Name: "a", Kind: api.ValBool}, {Name: "b", Kind: api.ValInt}, {Name: "c", Kind: api.ValReal}, {Name: "d", Kind: api.ValText}, {Name: "e", Kind: api.ValTexts}},
			Expr:   param("a"),
		}}},
	} {
		got, e := syntax.Print(s)
		back, spot := syntax.Parse(want)
		if got != want || e != api.OK || spot != (api.Spot{}) || !syntax.Same(back, s) {
			t.Errorf("Print(%s) = %q, %v, want %q; read back: %s, %+v", show(s), got, e, want, show(back), spot)
		}
	}
}

// P6.4: the own text of rewrites, and which parentheses it has.
func TestRewriteTexts(t *testing.T) {
	a, b, c := same("a"), from("b", "p"), allows("t")
	for _, x := range []struct {
		l    []api.Node
		want string
	}{
		{a, "a"},
		{b, "b from p"},
		{c, "[t]"},
		{allows("t u:* v#r"), "[t, u:*, v#r]"},
		{allows("t?with?c u:*?with?c v#r?with?c t"), "[t with c, u:* with c, v#r with c, t]"},
		{or(a, b, c), "a or b from p or [t]"},
		{and(a, b, c, a), "a and b from p and [t] and a"},
		{not(a, b), "a not b from p"},
		{or(or(a, b), c), "(a or b from p) or [t]"},
		{or(a, or(b, c)), "a or (b from p or [t])"},
		{or(and(a, b), c, not(a, b)), "(a and b from p) or [t] or (a not b from p)"},
		{and(or(a, b), and(a, a)), "(a or b from p) and (a and a)"},
		{not(not(a, b), not(b, a)), "(a not b from p) not (b from p not a)"},
		{or(or(or(or(a, a), a), a), a), "(((a or a) or a) or a) or a"},
		{not(and(a, or(b, c), a), or(a, a, a)), "(a and (b from p or [t]) and a) not (a or a or a)"},
	} {
		wantRewriteText(t, x.l, x.want)
	}
}

// ranks are those of the chapter, by kind, none for 0.
func ranks() []int {
	return []int{0, 8, 8, 7, 3, 6, 6, 5, 5, 4, 4, 4, 4, 4, 4, 4, 2, 1}
}

func signs() []string {
	return []string{"", "", "", "-", "not ", " * ", " / ", " + ", " - ", " == ", " != ", " < ", " <= ", " > ", " >= ", " in ", " and ", " or "}
}

// P6.4: of all pairs of operations, which parentheses are needed; as the chapter's rules say it.
func TestPairsOfOperations(t *testing.T) {
	a, b, c := param("a"), param("b"), param("c")
	single := func(kind int) bool { return kind <= api.PartNo }
	for outer := api.PartMinus; outer <= api.PartEither; outer++ {
		for inner := api.PartMinus; inner <= api.PartEither; inner++ {
			made, plain := part(inner, b, c), "b"+signs()[inner]+"c"
			if single(inner) {
				made, plain = part(inner, b), signs()[inner]+"b"
			}
			below, equal := ranks()[inner] < ranks()[outer], ranks()[inner] == ranks()[outer]
			first, second := plain, plain
			if below || equal && ranks()[outer] == 4 {
				first = "(" + plain + ")"
			}
			if below || equal {
				second = "(" + plain + ")"
			}
			if single(outer) {
				wantExprText(t, part(outer, made), signs()[outer]+first)
				continue
			}
			wantExprText(t, part(outer, made, a), first+signs()[outer]+"a")
			wantExprText(t, part(outer, a, made), "a"+signs()[outer]+second)
			wantExprText(t, part(outer, made, made), first+signs()[outer]+second)
		}
	}
}

// P6.4: several operations of one rank lean to the left, and are written so.
func TestRowsOfOneRank(t *testing.T) {
	a, b, c, d := param("a"), param("b"), param("c"), param("d")
	for _, rank := range [][]int{{api.PartEither}, {api.PartBoth}, {api.PartPlus, api.PartLess}, {api.PartTimes, api.PartOver}} {
		for _, x := range rank {
			for _, y := range rank {
				for _, z := range rank {
					X, Y, Z := signs()[x], signs()[y], signs()[z]
					wantExprText(t, part(z, part(y, part(x, a, b), c), d), "a"+X+"b"+Y+"c"+Z+"d")
					wantExprText(t, part(x, a, part(y, b, part(z, c, d))), "a"+X+"(b"+Y+"(c"+Z+"d))")
					wantExprText(t, part(y, part(x, a, b), part(z, c, d)), "a"+X+"b"+Y+"(c"+Z+"d)")
					wantExprText(t, part(x, a, part(z, part(y, b, c), d)), "a"+X+"(b"+Y+"c"+Z+"d)")
				}
			}
		}
	}
	for x := api.PartIs; x <= api.PartIn; x++ {
		for y := api.PartIs; y <= api.PartIn; y++ {
			X, Y := signs()[x], signs()[y]
			wantExprText(t, part(y, part(x, a, b), c), "(a"+X+"b)"+Y+"c")
			wantExprSpot(t, "a"+X+"b"+Y+"c", spot(api.ErrSyntax, len("a"+X+"b"+Y)-len(Y)+2))
		}
	}
}

// P6.4: below a minus those numbers stand in parentheses to which it would belong.
func TestBelowMinus(t *testing.T) {
	for s, apart := range map[string]bool{
		"0": true, "1": true, "9223372036854775807": true, "-1": false, "-9223372036854775808": false,
		"0.0": true, "1.5": true, "1.0e-45": true, "3.4028235e38": true, "inf": true, "-0.0": false, "-1.5": false, "-1.0e-45": false, "-inf": false, "nan": false,
		"true": false, "false": false, `""`: false, `"5"`: false, "[]": false, `["5"]`: false,
	} {
		want := s
		if apart {
			want = "(" + s + ")"
		}
		v := literal(s)
		wantExprText(t, v, s)
		wantExprText(t, minus(v), "-"+want)
		wantExprText(t, minus(minus(v)), "--"+want)
		wantExprText(t, part(api.PartTimes, minus(v), v), "-"+want+" * "+s)
		wantExprText(t, part(api.PartLess, v, minus(v)), s+" - -"+want)
		// Below all else no value stands in parentheses.
		wantExprText(t, part(api.PartNo, v), "not "+s)
		wantExprText(t, part(api.PartLess, v, v), s+" - "+s)
		wantExprText(t, part(api.PartOver, v, v), s+" / "+s)
		wantExprText(t, part(api.PartIn, v, v), s+" in "+s)
	}
	wantExprText(t, minus(param("a")), "-a")
}

// P6.3, P6.4: nan of any bits is written the same.
func TestNans(t *testing.T) {
	for _, bits := range []uint32{0x7f800001, 0x7fc00000, 0x7fffffff, 0xff800001, 0xffc00000, 0xffffffff} {
		x := real32(math.Float32frombits(bits))
		wantExprText(t, x, "nan")
		wantExprText(t, minus(x), "-nan")
	}
}

// P6.4: values are written by their literals.
func TestLiterals(t *testing.T) {
	wantExprText(t, text("a\"\\\n\x00~\x7f\xff//é"), `"a\"\\\n\x00~\x7f\xff//\xc3\xa9"`)
	wantExprText(t, list("", "a\"", ",", "]"), `["", "a\"", ",", "]"]`)
	wantExprText(t, list("or"), `["or"]`)
	wantExprText(t, part(api.PartIs, text("or"), text(")")), `"or" == ")"`)
	wantExpr(t, `"\x41\x0a" == ["\x2F"]`, part(api.PartIs, text("A\n"), list("/")))
}
