package schema_test

import (
	"slices"
	"testing"

	"latchkey/api"
	"latchkey/schema"
	"latchkey/syntax"
)

// Example 1.
func TestExampleOrdinary(t *testing.T) {
	m := model(t, "type user type doc relation owner: [user] relation viewer: [user] or owner")
	if got := m.Places(); !slices.Equal(got, []api.Place{{Type: "doc", Rel: "owner"}, {Type: "doc", Rel: "viewer"}}) {
		t.Error(got)
	}
	wantArcs(t, m, arcs("1>0"))
	wantLevels(t, m, numbers("0 0"))
	if m.Size() != 4 || m.Number("doc", "viewer") != 1 || m.Number("user", "owner") != -1 {
		t.Error(m.Size(), m.Number("doc", "viewer"), m.Number("user", "owner"))
	}
	if got := m.Allows(1); !slices.Equal(got, []api.Allow{{Type: "user"}}) {
		t.Error(got)
	}
	if got := m.Rewrite(2); len(got) != 0 {
		t.Error(got)
	}
}

// Examples 2 to 4.
func TestExampleGraphs(t *testing.T) {
	wantGraph(t, "type user type doc relation banned: [user] relation all: [user:*] relation may: all not banned", "2!0 2>1", "0 0 1")
	wantGraph(t, "type user type doc relation banned: [user] relation all: [user:*] relation may: all not (all not banned)", "2!0 2>1 2!1", "0 0 1")
	wantGraph(t, "type t relation a: [t] or b relation b: a", "0>1 1>0", "0 0")
	wantFaultOf(t, "type t relation a: [t] relation b: [t] not c relation c: b or a", fault(api.ErrStrata, 0, 1, -1))
	wantGraph(t, "type g relation m: [g#m] type f relation up: [f, g] relation m: [g#m] or m from up", "0>0 2>0 2>1 2>2", "0 0 0")
}

// Example 5.
func TestExampleFaults(t *testing.T) {
	wantFaultOf(t, "type a type a", fault(api.ErrTwice, 1, -1, -1))
	wantFaultOf(t, "type a relation r: s", fault(api.ErrRelation, 0, 0, 0))
	wantFaultOf(t, "type a relation r: [a] or s from r", fault(api.ErrArrow, 0, 0, 2))
	wantFaultOf(t, "type a relation w: [a] relation r: x from w", fault(api.ErrRelation, 0, 1, 0))
	wantFaultOf(t, "type a relation r: [b]", fault(api.ErrType, 0, 0, 0))
	wantFaultOf(t, "type a relation r: [a#s]", fault(api.ErrRelation, 0, 0, 0))
	wantFaultOf(t, "type a relation r: [a with c]", fault(api.ErrCond, 0, 0, 0))
	wantFaultOf(t, "type a relation r: [a, a:*, a]", fault(api.ErrTwice, 0, 0, 0))
	wantFaultOf(t, "type a relation r: [a] or [a:*]", fault(api.ErrTwice, 0, 0, 2))
	wantFaultOf(t, "cond c(): 1", fault(api.ErrKind, 0, 0, -1))
}

// Example 1 of the whole (DOC.md).
func TestExampleOfTheWhole(t *testing.T) {
	text := `type user
type team
  relation member: [user, team#member]
type doc
  relation parent: [doc]
  relation owner: [user]
  relation blocked: [user]
  relation viewer: ([user, user:*, team#member, user with hours] or owner or viewer from parent) not blocked
cond hours(now: int): now >= 9 and now < 17
`
	m := model(t, text)
	for n, p := range []api.Place{{Type: "team", Rel: "member"}, {Type: "doc", Rel: "parent"}, {Type: "doc", Rel: "owner"}, {Type: "doc", Rel: "blocked"}, {Type: "doc", Rel: "viewer"}} {
		if m.Number(p.Type, p.Rel) != n || m.Places()[n] != p {
			t.Error(p, m.Number(p.Type, p.Rel), m.Places())
		}
	}
	wantGraph(t, text, "0>0 4>0 4>1 4>2 4!3 4>4", "0 0 0 0 1")
	if m.Size() != 10 || len(m.Places()) != 5 {
		t.Error(m.Size(), m.Places())
	}
	if own, e := syntax.Print(m.Schema()); own != text || e != api.OK {
		t.Error(own, e)
	}
}

// P9.5: a nil model answers as if there were nothing.
func TestNilModel(t *testing.T) {
	var m *schema.Model
	if s := m.Schema(); len(s.Types) != 0 || len(s.Conds) != 0 {
		t.Error(s)
	}
	if len(m.Places()) != 0 || len(m.Arcs()) != 0 || m.Size() != 0 {
		t.Error(m.Places(), m.Arcs(), m.Size())
	}
	for _, n := range []int{-1, 0, 1, 1 << 40} {
		if len(m.Rewrite(n)) != 0 || len(m.Allows(n)) != 0 || m.Stratum(n) != -1 {
			t.Error(n, m.Rewrite(n), m.Allows(n), m.Stratum(n))
		}
	}
	for _, s := range []string{"", "a", "doc"} {
		if c, ok := m.Cond(s); ok || !sameCond(c, api.Cond{}) || m.Number(s, s) != -1 || m.Number(s, "") != -1 {
			t.Error(s, c, ok, m.Number(s, s))
		}
	}
}
