package syntax_test

import (
	"math"
	"strings"
	"testing"

	"latchkey/api"
	"latchkey/syntax"
)

// wantValueSpot asks for a refusal at the first byte of what, which stands in a text alone, in parentheses, in an operation and in a schema.
func wantValueSpot(t *testing.T, s, what string, e api.Errno) {
	t.Helper()
	for _, around := range []string{"%", "(%)", "a + %", "a * (b + %) + )", "not a == %", "a or b and % = =", "% - 99999999999999999999"} {
		in := strings.Replace(around, "%", s, 1)
		at := strings.Index(around, "%") + strings.Index(s, what) + 1
		wantExprSpot(t, in, spot(e, at))
		const head = "type a relation b: c cond d(e: int): "
		wantSpot(t, head+in, spot(e, len(head)+at))
	}
}

// P6.2: ints at their ends, with a minus that belongs to them and with others.
func TestInts(t *testing.T) {
	const top, least, over = "9223372036854775807", "9223372036854775808", "9223372036854775809"
	wantExpr(t, top, whole(math.MaxInt64))
	wantExpr(t, "-"+top, whole(-math.MaxInt64))
	wantExpr(t, "-"+least, whole(math.MinInt64))
	wantExpr(t, "- // x\n "+least, whole(math.MinInt64))
	wantExpr(t, "--"+least, minus(whole(math.MinInt64)))
	wantExpr(t, "-(-"+least+")", minus(whole(math.MinInt64)))
	wantExpr(t, "a - -"+least, part(api.PartLess, param("a"), whole(math.MinInt64)))
	wantExpr(t, "a * -"+least, part(api.PartTimes, param("a"), whole(math.MinInt64)))
	for _, s := range []string{least, "(" + least + ")", "-(" + least + ")", "1 - " + least, "a - " + least} {
		wantValueSpot(t, s, least, api.ErrValue)
	}
	wantExprSpot(t, "(a) - "+least, spot(api.ErrValue, 7))
	wantExprSpot(t, "[] - "+least, spot(api.ErrValue, 6))
	wantExprSpot(t, `"" - `+least, spot(api.ErrValue, 6))
	wantExprSpot(t, "true - "+least, spot(api.ErrValue, 8))
	wantExprSpot(t, "inf - "+least, spot(api.ErrValue, 7))
	for _, s := range []string{over, "-" + over, "- " + over, "--" + over, "a - -" + over} {
		wantValueSpot(t, s, over, api.ErrValue)
	}
	wantExpr(t, "0", whole(0))
	wantExpr(t, "-0", whole(0))
	wantExpr(t, "007", whole(7))
	wantExpr(t, "-007", whole(-7))
	wantExpr(t, times("0", 5000)+"9", whole(9))
	wantExpr(t, "-"+times("0", 5000)+least, whole(math.MinInt64))
	wantValueSpot(t, times("9", 5000), times("9", 5000), api.ErrValue)
	wantValueSpot(t, "1"+times("0", 5000), "1"+times("0", 5000), api.ErrValue)
	wantValueSpot(t, times("0", 5000)+least, times("0", 5000)+least, api.ErrValue)
}

// P6.2: reals, inf and nan, with a minus that belongs to them and with others.
func TestReals(t *testing.T) {
	wantExpr(t, "1.50", real32(1.5))
	wantExpr(t, "- 1.5", real32(-1.5))
	wantExpr(t, "0.0", real32(0))
	wantExpr(t, "-0.0", real32(low()))
	wantExpr(t, "-1.0e-400", real32(low()))
	wantExpr(t, "007.5e-1", real32(0.75))
	wantExpr(t, "3.4028235e38", real32(math.MaxFloat32))
	wantExpr(t, "-3.4028235e38", real32(-math.MaxFloat32))
	wantExpr(t, "inf", real32(inf()))
	wantExpr(t, "- inf", real32(-inf()))
	wantExpr(t, "nan", real32(nan()))
	wantExpr(t, "- nan", minus(real32(nan())))
	wantExpr(t, "--inf", minus(real32(-inf())))
	wantExpr(t, "-(inf)", minus(real32(inf())))
	wantExpr(t, "a - inf", part(api.PartLess, param("a"), real32(inf())))
	for _, s := range []string{"3.4028236e38", "1.0e39", "1.0e99999999999999999999"} {
		for _, ahead := range []string{"", "-", "- ", "--", "a - ", "1 - -"} {
			wantValueSpot(t, ahead+s, s, api.ErrValue)
		}
	}
}

// P6.2: a minus belongs to what stands right behind it, if that is an int, a real or inf and a value can begin with it.
func TestMinus(t *testing.T) {
	a, b := param("a"), param("b")
	wantExpr(t, "-a", minus(a))
	wantExpr(t, "--a", minus(minus(a)))
	wantExpr(t, "-(5)", minus(whole(5)))
	wantExpr(t, "-(-(5))", minus(minus(whole(5))))
	wantExpr(t, "---5", minus(minus(whole(-5))))
	wantExpr(t, "-true", minus(truth()))
	wantExpr(t, `-"x"`, minus(text("x")))
	wantExpr(t, `-["x"]`, minus(list("x")))
	wantExpr(t, "-5 * b", part(api.PartTimes, whole(-5), b))
	wantExpr(t, "-a * b", part(api.PartTimes, minus(a), b))
	wantExpr(t, "-(5 * b)", minus(part(api.PartTimes, whole(5), b)))
	wantExpr(t, "a-5", part(api.PartLess, a, whole(5)))
	wantExpr(t, "5-5", part(api.PartLess, whole(5), whole(5)))
	wantExpr(t, "a--5", part(api.PartLess, a, whole(-5)))
	wantExpr(t, "a---5", part(api.PartLess, a, minus(whole(-5))))
	wantExpr(t, "a - - b", part(api.PartLess, a, minus(b)))
	wantExpr(t, "(a)-5", part(api.PartLess, a, whole(5)))
	wantExpr(t, `["x"]-5`, part(api.PartLess, list("x"), whole(5)))
	wantExpr(t, "nan-5", part(api.PartLess, real32(nan()), whole(5)))
	wantExpr(t, "a * - 5", part(api.PartTimes, a, whole(-5)))
	wantExpr(t, "a in -5", part(api.PartIn, a, whole(-5)))
	wantExpr(t, "not -5", part(api.PartNo, whole(-5)))
	wantExpr(t, "a-5-5", part(api.PartLess, part(api.PartLess, a, whole(5)), whole(5)))
}

// P6.2: texts and lists at their limits and one past them.
func TestTexts(t *testing.T) {
	quoted := func(n int) string { return `"` + times("x", n) + `"` }
	wantExpr(t, quoted(256), text(times("x", 256)))
	wantExpr(t, `"`+times(`\xff`, 256)+`"`, text(times("\xff", 256)))
	wantExpr(t, `"`+times("\xff", 256)+`"`, text(times("\xff", 256)))
	wantValueSpot(t, quoted(257), `"`, api.ErrValue)
	wantValueSpot(t, `"`+times(`\n`, 257)+`"`, `"`, api.ErrValue)
	wantExpr(t, "["+quoted(256)+","+quoted(0)+"]", list(times("x", 256), ""))
	wantValueSpot(t, `["", `+quoted(257)+"]", `"x`, api.ErrValue)
	wantValueSpot(t, "["+quoted(257)+"]", `"`, api.ErrValue)

	full := "[" + strings.TrimSuffix(times(`"a",`, 32), ",")
	wantExpr(t, "[]", list())
	wantExpr(t, full+"]", list(strings.Split(strings.TrimSuffix(times("a ", 32), " "), " ")...))
	wantValueSpot(t, full+`, "b"]`, `"b"`, api.ErrValue)
	wantValueSpot(t, full+`, "b", "c", )`, `"b"`, api.ErrValue)
	wantValueSpot(t, full+`, "`+times("b", 257)+`"`, `"b`, api.ErrValue)
	// What can't stand there at all is told as that, be it too much or not.
	wantValueSpot(t, full+", ]", "]", api.ErrSyntax)
	wantValueSpot(t, full+", 7]", "7", api.ErrSyntax)
	wantValueSpot(t, full+" 7]", "7", api.ErrSyntax)
	wantValueSpot(t, `["a" "`+times("b", 257)+`"]`, `"b`, api.ErrSyntax)
	wantValueSpot(t, "[99999999999999999999]", "9", api.ErrSyntax)
	wantValueSpot(t, "a 99999999999999999999", "9", api.ErrSyntax)
	wantValueSpot(t, "a 1.0e39", "1", api.ErrSyntax)
	wantValueSpot(t, `a "`+times("b", 257)+`"`, `"b`, api.ErrSyntax)
	// And whichever stands first is told.
	wantExprSpot(t, "a + + 1.0e39", spot(api.ErrSyntax, 5))
	wantExprSpot(t, "1.0e39 + + a", spot(api.ErrValue, 1))
	wantExprSpot(t, "99999999999999999999", spot(api.ErrValue, 1))
	wantRewriteSpot(t, "a or 99999999999999999999", spot(api.ErrSyntax, 6))
	wantRewriteSpot(t, `a or "`+times("b", 257)+`"`, spot(api.ErrSyntax, 6))
}

// P6.2, P6.4: a text that can't be cut is told by its own error and place, whatever stands ahead.
func TestScannedFirst(t *testing.T) {
	for s, want := range map[string]api.Spot{
		"= = 99999999999999999999 A":    {Err: api.ErrToken, Line: 1, Col: 26},
		"or\n\n !":                      {Err: api.ErrToken, Line: 3, Col: 3},
		"a or \"":                       {Err: api.ErrToken, Line: 1, Col: 7},
		times("=", 65537):               {Err: api.ErrLong},
		times(" ", 65536) + "A":         {Err: api.ErrLong},
		times(" ", 65535) + "A":         {Err: api.ErrToken, Line: 1, Col: 65536},
		times("\n", 65535) + ")":        {Err: api.ErrSyntax, Line: 65536, Col: 1},
		times("(", 65535) + "\n":        {Err: api.ErrSyntax, Line: 2, Col: 1},
		"// " + times("x", 65530) + ",": {Err: api.ErrSyntax, Line: 1, Col: 65535},
	} {
		if want.Err != api.ErrSyntax {
			wantSpot(t, s, want)
		}
		wantRewriteSpot(t, s, want)
		wantExprSpot(t, s, want)
	}
}

// P6.2: a refusal is told by line and column of its token, in the midst of a text and at its end.
func TestPlaces(t *testing.T) {
	wantSpot(t, "type a\n\trelation b\n", api.Spot{Err: api.ErrSyntax, Line: 3, Col: 1})
	wantSpot(t, "type a // type b\n  relation b: // c\n\t) // d", api.Spot{Err: api.ErrSyntax, Line: 3, Col: 2})
	wantSpot(t, "cond c():\n  1.0e39 // x", api.Spot{Err: api.ErrValue, Line: 2, Col: 3})
	wantSpot(t, "cond c():\n  -\n    9223372036854775809", api.Spot{Err: api.ErrValue, Line: 3, Col: 5})
	wantSpot(t, "type a cond c(): true relation b: c", spot(api.ErrSyntax, 23))
	wantSpot(t, "type type", spot(api.ErrSyntax, 6))
	wantSpot(t, "type a relation from: b", spot(api.ErrSyntax, 17))
	wantSpot(t, `type "a"`, spot(api.ErrSyntax, 6))
	wantSpot(t, "cond c(a: int,): a", spot(api.ErrSyntax, 15))
	wantSpot(t, `cond c(a: "int"): a`, spot(api.ErrSyntax, 11))
	wantSpot(t, "type a relation b: []", spot(api.ErrSyntax, 21))
	wantSpot(t, "type a relation b: [c:d]", spot(api.ErrSyntax, 23))
	wantSpot(t, "type a relation b: [c#d:*]", spot(api.ErrSyntax, 24))
	wantSpot(t, "type a relation b: [c with d#e]", spot(api.ErrSyntax, 29))
	wantRewriteSpot(t, "", spot(api.ErrSyntax, 1))
	wantExprSpot(t, " ", spot(api.ErrSyntax, 2))
	wantRewriteSpot(t, "type a", spot(api.ErrSyntax, 1))
	wantRewriteSpot(t, "a type b", spot(api.ErrSyntax, 3))
	wantExprSpot(t, "a cond c(): b", spot(api.ErrSyntax, 3))
	wantExprSpot(t, "a == not b", spot(api.ErrSyntax, 6))
	wantExprSpot(t, "- not b", spot(api.ErrSyntax, 3))
	wantExprSpot(t, "a = b", spot(api.ErrSyntax, 3))
	wantExprSpot(t, "not a == b != c", spot(api.ErrSyntax, 12))
	wantExprSpot(t, "a < b + c in d", spot(api.ErrSyntax, 11))
	wantExpr(t, "a == (not b)", part(api.PartIs, param("a"), part(api.PartNo, param("b"))))
}

// P6.2: types and conditions are two lists, in whatever order they stand among each other.
func TestOrderOfTypesAndConds(t *testing.T) {
	got, spot := syntax.Parse("cond z(): true type b relation r: a cond a(x: texts): x type a type b relation s: r from s")
	want := api.Schema{
		Types: []api.Type{
			{Name: "b", Relations: []api.Relation{{Name: "r", Rewrite: same("a")}}},
			{Name: "a"},
			{Name: "b", Relations: []api.Relation{{Name: "s", Rewrite: from("r", "s")}}},
		},
		Conds: []api.Cond{{Name: "z", Expr: truth()}, {Name: "a", Params: []api.Param{{Name: "x", Kind: api.ValTexts}}, Expr: param("x")}},
	}
	if spot != (api.Spot{}) || !syntax.Same(got, want) {
		t.Errorf("%s, %+v", show(got), spot)
	}
	const own = "type b\n  relation r: a\ntype a\ntype b\n  relation s: r from s\ncond z(): true\ncond a(x: texts): x\n"
	if text, e := syntax.Print(got); text != own || e != api.OK {
		t.Errorf("%q, %v", text, e)
	}
}
