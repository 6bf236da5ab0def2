package syntax_test

import (
	"testing"

	"latchkey/api"
	"latchkey/syntax"
)

// P6.5: a schema is the same as one that is made anew, and as none of which one field, one order or one length is another.
func TestSame(t *testing.T) {
	spoils := []func(s *api.Schema){
		func(s *api.Schema) { s.Types = s.Types[:1] },
		func(s *api.Schema) { s.Types = append(s.Types, api.Type{}) },
		func(s *api.Schema) { s.Types[0], s.Types[1] = s.Types[1], s.Types[0] },
		func(s *api.Schema) { s.Types[0].Name = "users" },
		func(s *api.Schema) { s.Types[0].Relations = append(s.Types[0].Relations, api.Relation{}) },
		func(s *api.Schema) { s.Types[1].Relations = s.Types[1].Relations[:1] },
		func(s *api.Schema) { r := s.Types[1].Relations; r[0], r[1] = r[1], r[0] },
		func(s *api.Schema) { s.Types[1].Relations[1].Name = "" },
		func(s *api.Schema) { r := &s.Types[1].Relations[1]; r.Rewrite = r.Rewrite[:3] },
		func(s *api.Schema) { r := &s.Types[1].Relations[1]; r.Rewrite = append(r.Rewrite, api.Node{}) },
		func(s *api.Schema) { l := s.Types[1].Relations[1].Rewrite; l[2], l[3] = l[3], l[2] },
		func(s *api.Schema) { s.Types[1].Relations[1].Rewrite[0].Kind = api.NodeAnd },
		func(s *api.Schema) { s.Types[1].Relations[1].Rewrite[0].Kids = 4 },
		func(s *api.Schema) { s.Types[1].Relations[1].Rewrite[0].Rel = "a" },
		func(s *api.Schema) { s.Types[1].Relations[1].Rewrite[2].Rel = "a" },
		func(s *api.Schema) { s.Types[1].Relations[1].Rewrite[3].From = "a" },
		func(s *api.Schema) { n := &s.Types[1].Relations[1].Rewrite[1]; n.Allow = n.Allow[:2] },
		func(s *api.Schema) {
			n := &s.Types[1].Relations[1].Rewrite[1]
			n.Allow = append(n.Allow, api.Allow{})
		},
		func(s *api.Schema) { l := s.Types[1].Relations[1].Rewrite[1].Allow; l[0], l[1] = l[1], l[0] },
		func(s *api.Schema) { s.Types[1].Relations[1].Rewrite[1].Allow[0].Type = "a" },
		func(s *api.Schema) { s.Types[1].Relations[1].Rewrite[1].Allow[0].Rel = "a" },
		func(s *api.Schema) { s.Types[1].Relations[1].Rewrite[1].Allow[0].All = true },
		func(s *api.Schema) { s.Types[1].Relations[1].Rewrite[1].Allow[0].Cond = "a" },
		func(s *api.Schema) { s.Conds = nil },
		func(s *api.Schema) { s.Conds = append(s.Conds, api.Cond{}) },
		func(s *api.Schema) { s.Conds[0].Name = "a" },
		func(s *api.Schema) { s.Conds[0].Params = nil },
		func(s *api.Schema) { s.Conds[0].Params = append(s.Conds[0].Params, api.Param{}) },
		func(s *api.Schema) { s.Conds[0].Params[0].Name = "a" },
		func(s *api.Schema) { s.Conds[0].Params[0].Kind = api.ValReal },
		func(s *api.Schema) { s.Conds[0].Expr = s.Conds[0].Expr[:7] },
		func(s *api.Schema) { s.Conds[0].Expr = append(s.Conds[0].Expr, api.Part{}) },
		func(s *api.Schema) { s.Conds[0].Expr[0].Kind = api.PartEither },
		func(s *api.Schema) { s.Conds[0].Expr[0].Name = "a" },
		func(s *api.Schema) { s.Conds[0].Expr[2].Name = "a" },
		func(s *api.Schema) { s.Conds[0].Expr[2].Value = truth()[0].Value },
		func(s *api.Schema) { s.Conds[0].Expr[3].Value.Int = 8 },
		func(s *api.Schema) { s.Conds[0].Expr[3].Value.Kind = 0 },
		func(s *api.Schema) { s.Conds[0].Expr[3].Value.Text = "x" },
	}
	if !syntax.Same(officeSchema(), officeSchema()) || !syntax.Same(api.Schema{}, api.Schema{}) {
		t.Error("a schema isn't the same as itself")
	}
	for i, spoil := range spoils {
		s := officeSchema()
		spoil(&s)
		if syntax.Same(s, officeSchema()) || syntax.Same(officeSchema(), s) {
			t.Errorf("%d: the same: %s", i, show(s))
		}
		for j, other := range spoils {
			o := officeSchema()
			other(&o)
			if i < j && syntax.Same(s, o) {
				t.Errorf("%d and %d are the same", i, j)
			}
		}
	}
}

// P6.5: lists that are nil or empty are the same.
func TestSameNilAndEmpty(t *testing.T) {
	a := api.Schema{Types: []api.Type{{Relations: []api.Relation{{Rewrite: []api.Node{{}}}, {}}}}, Conds: []api.Cond{{}, {Expr: list()}}}
	b := api.Schema{
		Types: []api.Type{{Relations: []api.Relation{{Rewrite: []api.Node{{Allow: []api.Allow{}}}}, {Rewrite: []api.Node{}}}}},
		Conds: []api.Cond{{Params: []api.Param{}, Expr: []api.Part{}}, {Expr: list([]string{}...)}},
	}
	b.Conds[1].Expr[0].Value.Texts = []string{}
	if !syntax.Same(a, b) || !syntax.Same(b, a) || !syntax.Same(api.Schema{}, api.Schema{Types: []api.Type{}, Conds: []api.Cond{}}) {
		t.Error("not the same")
	}
}

// P6.5: values by values.Same, or as none of both.
func TestSameValues(t *testing.T) {
	all := join(truth(), literal("false"), whole(0), whole(1), real32(0), real32(low()), real32(1), real32(nan()), real32(inf()), text(""), text("a"), list(), list(""), list("a"), list("a", "b"), value(api.Value{}))
	for i, a := range all {
		for j, b := range all {
			if got := sameExpr([]api.Part{a}, []api.Part{b}); got != (i == j) {
				t.Errorf("%s and %s: %v", show(a), show(b), got)
			}
		}
	}
	yes := func(a, b api.Value) {
		t.Helper()
		if !sameExpr(value(a), value(b)) || !sameExpr(value(b), value(a)) {
			t.Errorf("%s and %s aren't the same", show(a), show(b))
		}
	}
	yes(api.Value{}, api.Value{Int: 1, Real: nan(), Text: "x", Texts: []string{"x"}, Bool: true})
	yes(api.Value{Kind: api.ValInt, Int: 1}, api.Value{Kind: api.ValInt, Int: 1, Real: low()})
	// A value that may not be is the same as none, itself among them.
	for _, v := range []api.Value{{Kind: 6}, {Kind: -1}, {Kind: api.ValInt, Text: "x"}, {Kind: api.ValText, Text: times("x", 257)}} {
		if sameExpr(value(v), value(v)) || sameExpr(value(v), value(api.Value{})) || sameExpr(value(api.Value{}), value(v)) {
			t.Errorf("%s is the same as itself, or as none", show(v))
		}
	}
}
