package syntax_test

import (
	"fmt"
	"math"
	"slices"
	"strconv"
	"strings"
	"testing"

	"latchkey/api"
	"latchkey/syntax"
	"latchkey/values"
)

// show tells what a test speaks of, no longer than one can read.
func show(v any) string {
	s := fmt.Sprintf("%+v", v)
	if len(s) > 300 {
		return s[:300] + ".."
	}
	return s
}

func times(s string, n int) string { return strings.Repeat(s, n) }

// join lays lists one behind the other.
func join[T any](lists ...[]T) []T { return slices.Concat(lists...) }

// Nodes, each as the rewrite that it is by itself.

func this(l ...api.Allow) []api.Node { return []api.Node{{Kind: api.NodeThis, Allow: l}} }

func same(rel string) []api.Node { return []api.Node{{Kind: api.NodeSame, Rel: rel}} }

func from(rel, way string) []api.Node {
	return []api.Node{{Kind: api.NodeFrom, Rel: rel, From: way}}
}

func node(kind int, kids ...[]api.Node) []api.Node {
	return join([]api.Node{{Kind: kind, Kids: len(kids)}}, join(kids...))
}

func or(kids ...[]api.Node) []api.Node { return node(api.NodeOr, kids...) }

func and(kids ...[]api.Node) []api.Node { return node(api.NodeAnd, kids...) }

func not(a, b []api.Node) []api.Node { return node(api.NodeNot, a, b) }

// allow reads one, as it is written, with a ? in the place of each blank.
func allow(s string) api.Allow {
	s, cond, _ := strings.Cut(s, "?with?")
	typ, rel, _ := strings.Cut(s, "#")
	typ, all := strings.CutSuffix(typ, ":*")
	return api.Allow{Type: typ, Rel: rel, All: all, Cond: cond}
}

func allows(s string) []api.Node {
	var l []api.Allow
	for _, x := range strings.Fields(s) {
		l = append(l, allow(x))
	}
	return this(l...)
}

// Parts, each as the expression that it is by itself.

func param(name string) []api.Part { return []api.Part{{Kind: api.PartParam, Name: name}} }

func value(v api.Value) []api.Part { return []api.Part{{Kind: api.PartValue, Value: v}} }

// literal is the value that is written so.
func literal(s string) []api.Part {
	v, e := values.Parse(s)
	if e != api.OK {
		panic(s)
	}
	return value(v)
}

func whole(n int64) []api.Part { return value(api.Value{Kind: api.ValInt, Int: n}) }

func real32(x float32) []api.Part { return value(api.Value{Kind: api.ValReal, Real: x}) }

func text(s string) []api.Part { return value(api.Value{Kind: api.ValText, Text: s}) }

func list(l ...string) []api.Part { return value(api.Value{Kind: api.ValTexts, Texts: l}) }

func truth() []api.Part { return value(api.Value{Kind: api.ValBool, Bool: true}) }

func part(kind int, made ...[]api.Part) []api.Part {
	return join([]api.Part{{Kind: kind}}, join(made...))
}

func minus(x []api.Part) []api.Part { return part(api.PartMinus, x) }

func inf() float32 { return float32(math.Inf(1)) }

func nan() float32 { return float32(math.NaN()) }

// low is -0, which no constant is.
func low() float32 { return math.Float32frombits(1 << 31) }

// Schemas.

// relation is a schema of one type with one relation.
func relation(l []api.Node) api.Schema {
	return api.Schema{Types: []api.Type{{Name: "t", Relations: []api.Relation{{Name: "r", Rewrite: l}}}}}
}

// cond is a schema of one condition without parameters.
func cond(l []api.Part) api.Schema {
	return api.Schema{Conds: []api.Cond{{Name: "c", Expr: l}}}
}

func sameRewrite(a, b []api.Node) bool { return syntax.Same(relation(a), relation(b)) }

func sameExpr(a, b []api.Part) bool { return syntax.Same(cond(a), cond(b)) }

// named are as many things, made by number and name.
func named[T any](n int, make func(name string) T) []T {
	var l []T
	for i := range n {
		l = append(l, make("n"+strconv.Itoa(i)))
	}
	return l
}

// What a call must answer.

func wantFault(t *testing.T, s api.Schema, want api.Fault) {
	t.Helper()
	if got := syntax.Check(s); got != want {
		t.Errorf("Check(%s) = %+v, want %+v", show(s), got, want)
	}
	text, e := syntax.Print(s)
	if e != want.Err || e != api.OK && text != "" {
		t.Errorf("Print(%s) = %s, %v, want %v", show(s), show(text), e, want.Err)
	}
}

// wantRewriteFault asks each call that a rewrite can be refused by.
func wantRewriteFault(t *testing.T, l []api.Node, want api.Errno, node int) {
	t.Helper()
	fault := api.Fault{Err: want, Node: node}
	if want == api.OK {
		fault = api.Fault{}
	}
	wantFault(t, relation(l), fault)
	if text, e := syntax.PrintRewrite(l); e != want || e != api.OK && text != "" {
		t.Errorf("PrintRewrite(%s) = %s, %v, want %v", show(l), show(text), e, want)
	}
}

// wantExprFault asks each call that an expression can be refused by, the condition having as many parameters.
func wantExprFault(t *testing.T, l []api.Part, want api.Errno, at int) {
	t.Helper()
	for _, n := range []int{0, 1, 16} {
		s := cond(l)
		s.Conds[0].Params = named(n, func(name string) api.Param { return api.Param{Name: name, Kind: api.ValInt} })
		fault := api.Fault{Err: want, Part: n + at, Node: -1}
		if at == -1 {
			fault.Part = -1
		}
		if want == api.OK {
			fault = api.Fault{}
		}
		wantFault(t, s, fault)
	}
	if text, e := syntax.PrintExpr(l); e != want || e != api.OK && text != "" {
		t.Errorf("PrintExpr(%s) = %s, %v, want %v", show(l), show(text), e, want)
	}
}

// spot is at a column of the first line; the error alone, if col is 0.
func spot(e api.Errno, col int) api.Spot {
	if e == api.OK || col == 0 {
		return api.Spot{Err: e}
	}
	return api.Spot{Err: e, Line: 1, Col: col}
}

func wantSpot(t *testing.T, s string, want api.Spot) {
	t.Helper()
	got, spot := syntax.Parse(s)
	if spot != want || spot.Err != api.OK && len(got.Types)+len(got.Conds) > 0 {
		t.Errorf("Parse(%s) = %s, %+v, want %+v", show(s), show(got), spot, want)
	}
}

func wantRewriteSpot(t *testing.T, s string, want api.Spot) {
	t.Helper()
	got, spot := syntax.ParseRewrite(s)
	if spot != want || spot.Err != api.OK && len(got) > 0 {
		t.Errorf("ParseRewrite(%s) = %s, %+v, want %+v", show(s), show(got), spot, want)
	}
}

func wantExprSpot(t *testing.T, s string, want api.Spot) {
	t.Helper()
	got, spot := syntax.ParseExpr(s)
	if spot != want || spot.Err != api.OK && len(got) > 0 {
		t.Errorf("ParseExpr(%s) = %s, %+v, want %+v", show(s), show(got), spot, want)
	}
}

// wantRewrite asks that a text is read as a tree, alone and within a schema.
func wantRewrite(t *testing.T, s string, want []api.Node) {
	t.Helper()
	got, spot := syntax.ParseRewrite(s)
	if spot != (api.Spot{}) || !sameRewrite(got, want) {
		t.Errorf("ParseRewrite(%s) = %s, %+v, want %s", show(s), show(got), spot, show(want))
	}
	in, spot := syntax.Parse("type t relation r:" + s)
	if spot != (api.Spot{}) || !syntax.Same(in, relation(want)) {
		t.Errorf("Parse of %s in a schema: %s, %+v, want %s", show(s), show(in), spot, show(want))
	}
}

// wantExpr asks that a text is read as a tree, alone and within a schema.
func wantExpr(t *testing.T, s string, want []api.Part) {
	t.Helper()
	got, spot := syntax.ParseExpr(s)
	if spot != (api.Spot{}) || !sameExpr(got, want) {
		t.Errorf("ParseExpr(%s) = %s, %+v, want %s", show(s), show(got), spot, show(want))
	}
	in, spot := syntax.Parse("cond c():" + s)
	if spot != (api.Spot{}) || !syntax.Same(in, cond(want)) {
		t.Errorf("Parse of %s in a schema: %s, %+v, want %s", show(s), show(in), spot, show(want))
	}
}

// wantRewriteText asks for a rewrite's own text, alone and within a schema, and that it is read back.
func wantRewriteText(t *testing.T, l []api.Node, want string) {
	t.Helper()
	if got, e := syntax.PrintRewrite(l); got != want || e != api.OK {
		t.Errorf("PrintRewrite(%s) = %s, %v, want %s", show(l), show(got), e, show(want))
	}
	if got, e := syntax.Print(relation(l)); got != "type t\n  relation r: "+want+"\n" || e != api.OK {
		t.Errorf("Print of %s in a schema: %s, %v, want %s", show(l), show(got), e, show(want))
	}
	wantRewrite(t, want, l)
}

// wantExprText asks for an expression's own text, alone and within a schema, and that it is read back.
func wantExprText(t *testing.T, l []api.Part, want string) {
	t.Helper()
	if got, e := syntax.PrintExpr(l); got != want || e != api.OK {
		t.Errorf("PrintExpr(%s) = %s, %v, want %s", show(l), show(got), e, show(want))
	}
	if got, e := syntax.Print(cond(l)); got != "cond c(): "+want+"\n" || e != api.OK {
		t.Errorf("Print of %s in a schema: %s, %v, want %s", show(l), show(got), e, show(want))
	}
	wantExpr(t, want, l)
}
