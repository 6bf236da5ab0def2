package syntax_test

import (
	"math"
	"testing"

	"latchkey/api"
	"latchkey/syntax"
)

const office = `type user
type doc
  relation owner: [user]
  relation viewer: [user, user:*, group#member with office] or owner or viewer from parent
cond office(at: int): at >= 9 and not at > 17
`

func officeSchema() api.Schema {
	return api.Schema{
		Types: []api.Type{
			{Name: "user"},
			{Name: "doc", Relations: []api.Relation{
				{Name: "owner", Rewrite: allows("user")},
				{Name: "viewer", Rewrite: or(allows("user user:* group#member?with?office"), same("owner"), from("viewer", "parent"))},
			}},
		},
		Conds: []api.Cond{{
			Name:   "office",
			Params: []api.Param{{Name: "at", Kind: api.ValInt}},
			Expr:   part(api.PartBoth, part(api.PartAtLeast, param("at"), whole(9)), part(api.PartNo, part(api.PartAbove, param("at"), whole(17)))),
		}},
	}
}

// The chapter's example 1.
func TestWholeSchema(t *testing.T) {
	for _, s := range []string{
		"type user type doc relation owner: [user] relation viewer: [user, user:*, group#member with office] or owner or viewer from parent cond office(at: int): at >= 9 and not at > 17",
		office,
	} {
		got, spot := syntax.Parse(s)
		if spot != (api.Spot{}) || !syntax.Same(got, officeSchema()) {
			t.Errorf("Parse = %s, %+v", show(got), spot)
		}
	}
	if got, e := syntax.Print(officeSchema()); got != office || e != api.OK {
		t.Errorf("Print = %s, %v", got, e)
	}
	wantFault(t, officeSchema(), api.Fault{})
}

// DOC.md's schema H, its first example.
func TestSchemaH(t *testing.T) {
	const h = `type user
type team
  relation member: [user, team#member]
type doc
  relation parent: [doc]
  relation owner: [user]
  relation blocked: [user]
  relation viewer: ([user, user:*, team#member, user with hours] or owner or viewer from parent) not blocked
cond hours(now: int): now >= 9 and now < 17
`
	s, spot := syntax.Parse(h)
	if got, e := syntax.Print(s); spot != (api.Spot{}) || e != api.OK || got != h {
		t.Errorf("%+v, %v: %s", spot, e, got)
	}
}

// The chapter's example 2.
func TestNothingAndRefusals(t *testing.T) {
	for _, s := range []string{"", " ", " \t\r\n", "// x", "// x\n\n//"} {
		got, spot := syntax.Parse(s)
		own, e := syntax.Print(got)
		if spot != (api.Spot{}) || len(got.Types)+len(got.Conds) > 0 || own != "" || e != api.OK {
			t.Errorf("Parse(%q) = %s, %+v; printed %q, %v", s, show(got), spot, own, e)
		}
	}
	wantSpot(t, "type a relation b: c or d and e", spot(api.ErrSyntax, 27))
	wantSpot(t, "type a relation b:", spot(api.ErrSyntax, 19))
	wantSpot(t, "relation b: c", spot(api.ErrSyntax, 1))
	wantSpot(t, "cond c(a: number): a", spot(api.ErrSyntax, 11))
}

// The chapter's example 3.
func TestRewriteExamples(t *testing.T) {
	l := not(same("a"), or(same("b"), same("c")))
	wantRewrite(t, "((a)) not (b or (c))", l)
	wantRewriteText(t, l, "a not (b or c)")
	wantRewriteText(t, or(or(same("a"), same("b")), same("c")), "(a or b) or c")
}

// The chapter's example 4.
func TestExprExamples(t *testing.T) {
	a, b, c := param("a"), param("b"), param("c")
	wantExprText(t, part(api.PartLess, a, part(api.PartTimes, whole(-5), b)), "a - -5 * b")
	wantExprText(t, minus(whole(5)), "-(5)")
	wantExpr(t, "- 5", whole(-5))
	wantExprText(t, whole(-5), "-5")
	wantExprText(t, minus(whole(-5)), "--5")
	wantExprSpot(t, "a == b == c", spot(api.ErrSyntax, 8))
	wantExprText(t, part(api.PartIs, part(api.PartIs, a, b), c), "(a == b) == c")
	wantExprText(t, part(api.PartLess, a, part(api.PartLess, b, c)), "a - (b - c)")
	wantExprText(t, minus(real32(nan())), "-nan")
}

// The chapter's example 5.
func TestNumberExamples(t *testing.T) {
	wantExprSpot(t, "9223372036854775808", spot(api.ErrValue, 1))
	wantExprText(t, whole(math.MinInt64), "-9223372036854775808")
	wantExprSpot(t, "- 9223372036854775809", spot(api.ErrValue, 3))
	wantExprSpot(t, "1.0e39", spot(api.ErrValue, 1))
}

// The chapter's example 6.
func TestFaultExamples(t *testing.T) {
	wantRewriteFault(t, nil, api.ErrTree, 0)
	wantRewriteFault(t, []api.Node{{Kind: api.NodeOr, Kids: 2}, same("a")[0]}, api.ErrTree, 2)
	wantRewriteFault(t, join(same("a"), same("b")), api.ErrTree, 1)
	s := cond(param("Or"))
	s.Types = []api.Type{{Name: "t"}, {Name: "u"}, {Name: "v"}}
	s.Conds[0].Params = []api.Param{{Name: "a", Kind: api.ValInt}, {Name: "b", Kind: api.ValInt}}
	wantFault(t, s, api.Fault{Err: api.ErrName, What: 3, Part: 2, Node: -1})
}
