package schema_test

import (
	"strings"
	"testing"

	"latchkey/api"
	"latchkey/syntax"
)

// P9.1, 1: what syntax.Check says is said as it stands, ahead of all else.
func TestSyntaxFaults(t *testing.T) {
	same := func(rel string) []api.Node { return []api.Node{{Kind: api.NodeSame, Rel: rel}} }
	node := func(n api.Node) api.Schema {
		return api.Schema{Types: []api.Type{{Name: "a"}, {Name: "a", Relations: []api.Relation{{Name: "r", Rewrite: same("q")}, {Name: "r", Rewrite: []api.Node{n}}}}}}
	}
	cond := func(c api.Cond) api.Schema {
		return api.Schema{Types: []api.Type{{Name: "a"}, {Name: "a"}}, Conds: []api.Cond{{Name: "c", Expr: []api.Part{{Kind: api.PartParam, Name: "x"}}}, c}}
	}
	for _, x := range []struct {
		s    api.Schema
		want api.Fault
	}{
		{api.Schema{Types: []api.Type{{Name: "a"}, {Name: "a"}, {Name: "or"}}}, fault(api.ErrName, 2, -1, -1)},
		{api.Schema{Types: make([]api.Type, api.MaxTypes+1)}, fault(api.ErrLong, -1, -1, -1)},
		{api.Schema{Types: []api.Type{{Name: "a", Relations: make([]api.Relation, api.MaxRelations+1)}}}, fault(api.ErrLong, 0, -1, -1)},
		{api.Schema{Types: []api.Type{{Name: "a", Relations: []api.Relation{{Name: "r", Rewrite: same("q")}, {Name: "A", Rewrite: same("q")}}}}}, fault(api.ErrName, 0, 1, -1)},
		{node(api.Node{}), fault(api.ErrTree, 1, 1, 0)},
		{node(api.Node{Kind: 7}), fault(api.ErrTree, 1, 1, 0)},
		{node(api.Node{Kind: -1}), fault(api.ErrTree, 1, 1, 0)},
		{node(api.Node{Kind: api.NodeOr, Kids: 1 << 62}), fault(api.ErrTree, 1, 1, 1)},
		{node(api.Node{Kind: api.NodeNot, Kids: 3}), fault(api.ErrTree, 1, 1, 0)},
		{node(api.Node{Kind: api.NodeThis}), fault(api.ErrTree, 1, 1, 0)},
		{node(api.Node{Kind: api.NodeThis, Allow: []api.Allow{{Type: "b"}, {Type: "a", Rel: "r", All: true}}}), fault(api.ErrTree, 1, 1, 0)},
		{node(api.Node{Kind: api.NodeSame}), fault(api.ErrName, 1, 1, 0)},
		{node(api.Node{Kind: api.NodeFrom, Rel: "r"}), fault(api.ErrName, 1, 1, 0)},
		{api.Schema{Types: []api.Type{{Name: "a", Relations: []api.Relation{{Name: "r"}}}}}, fault(api.ErrTree, 0, 0, 0)},
		{cond(api.Cond{}), fault(api.ErrName, 3, -1, -1)},
		{cond(api.Cond{Name: "c"}), fault(api.ErrTree, 3, 0, -1)},
		{cond(api.Cond{Name: "c", Params: []api.Param{{Name: "x", Kind: 9}}}), fault(api.ErrTree, 3, 0, -1)},
		{cond(api.Cond{Name: "c", Expr: []api.Part{{Kind: api.PartValue}}}), fault(api.ErrValue, 3, 0, -1)},
	} {
		if f := syntax.Check(x.s); f != x.want {
			t.Errorf("syntax.Check(%s): %+v, want %+v", show(x.s), f, x.want)
		}
		wantFault(t, x.s, x.want)
	}
}

// P9.1, 2: names that stand there twice, of types, relations and conditions.
func TestNamesTwice(t *testing.T) {
	wantFaultOf(t, "type a type b type a type b", fault(api.ErrTwice, 2, -1, -1))
	wantFaultOf(t, "type a relation r: [a] relation s: [a] relation r: s", fault(api.ErrTwice, 0, 2, -1))
	wantFaultOf(t, "type a type b relation r: [a] relation r: [a]", fault(api.ErrTwice, 1, 1, -1))
	wantFaultOf(t, "cond c(): true cond d(): true cond d(): true cond c(): true", fault(api.ErrTwice, 2, -1, -1))
	wantFaultOf(t, "type a type b cond c(): true cond c(): false", fault(api.ErrTwice, 3, -1, -1))
	// A type's own name goes ahead of its relations', and a type ahead of those behind it.
	wantFaultOf(t, "type a type a relation r: [a] relation r: [a]", fault(api.ErrTwice, 1, -1, -1))
	wantFaultOf(t, "type a relation r: [a] relation r: [a] type a", fault(api.ErrTwice, 0, 1, -1))
	wantFaultOf(t, "cond c(): true cond c(): true type a relation r: [a] relation r: [a]", fault(api.ErrTwice, 0, 1, -1))
	// Of two types, or of types, relations and conditions, names may be alike.
	wantFaultOf(t, "type a relation a: [a with a] relation b: [a] type b relation a: [a] relation b: [b with b] cond a(): true cond b(): true", api.Fault{})
}

// P9.1, 3: the faults of conditions, counted on behind the types.
func TestCondFaults(t *testing.T) {
	wantFaultOf(t, "type a type b cond c(): true cond d(n: int): n", fault(api.ErrKind, 3, 1, -1))
	wantFaultOf(t, "type a cond c(n: int): n == m", fault(api.ErrParam, 1, 3, -1))
	wantFaultOf(t, "type a cond c(n: int, n: bool): true", fault(api.ErrTwice, 1, 1, -1))
	wantFaultOf(t, "cond c(n: int, t: text): n == t and m", fault(api.ErrKind, 0, 3, -1))
	wantFaultOf(t, "cond c(): true cond d(): x cond e(): 1", fault(api.ErrParam, 1, 0, -1))
}

// P9.1, 4: of a NodeSame.
func TestSameFaults(t *testing.T) {
	wantFaultOf(t, "type a relation s: [a] type b relation r: s", fault(api.ErrRelation, 1, 0, 0))
	wantFaultOf(t, "type a relation r: [a] or (r and (r not x))", fault(api.ErrRelation, 0, 0, 6))
	wantFaultOf(t, "type a relation q: [a] relation r: a", fault(api.ErrRelation, 0, 1, 0))
	wantFaultOf(t, "type a relation q: [a] relation r: c cond c(): true", fault(api.ErrRelation, 0, 1, 0))
}

// P9.1, 4: of a NodeFrom: no such relation, no way, no type that has the other one.
func TestFromFaults(t *testing.T) {
	wantFaultOf(t, "type a relation q: [a] relation r: q from x", fault(api.ErrRelation, 0, 1, 0))
	wantFaultOf(t, "type b relation x: [b] type a relation q: [a] relation r: q from x", fault(api.ErrRelation, 1, 1, 0))
	// The relation lacks ahead of the way's being none, and that ahead of the types' having nothing.
	for _, way := range []string{"q", "[a:*]", "[a#q]", "[a, a:*]", "[a, a#q]", "[a] or q", "[a] and q", "[a] not q", "q from v", "[a with c, a:* with c]"} {
		wantFaultOf(t, "type a relation q: [a] relation r: q from w relation v: [a] relation w: "+way+" cond c(): true", fault(api.ErrArrow, 0, 1, 0))
		wantFaultOf(t, "type a relation q: [a] relation r: nothing from w relation v: [a] relation w: "+way+" cond c(): true", fault(api.ErrArrow, 0, 1, 0))
	}
	for _, way := range []string{"[a]", "[a with c]", "[a, a with c]", "[b, a]", "[b, b with c, a with c]"} {
		wantFaultOf(t, "type a relation q: [a] relation r: q from w relation w: "+way+" type b cond c(): true", api.Fault{})
	}
	for _, rel := range []string{"x", "a", "b", "c"} {
		wantFaultOf(t, "type a relation w: [b, a, d] relation q: [a] or (q and "+rel+" from w) type b relation y: [a] type e relation x: [e] type d cond c(): true", fault(api.ErrRelation, 0, 1, 4))
	}
	// A type that the way allows and that isn't there has no relation: the way itself is told behind it, or ahead of it.
	wantFaultOf(t, "type a relation r: x from w relation w: [b]", fault(api.ErrRelation, 0, 0, 0))
	wantFaultOf(t, "type a relation r: r from w relation w: [b, a]", fault(api.ErrType, 0, 1, 0))
	wantFaultOf(t, "type a relation w: [b] relation r: x from w", fault(api.ErrType, 0, 0, 0))
}

// P9.1, 4: of a NodeThis: another one ahead; then allowance by allowance.
func TestThisFaults(t *testing.T) {
	wantFaultOf(t, "type a relation r: [a] or ([b] and [a])", fault(api.ErrTwice, 0, 0, 3))
	wantFaultOf(t, "type a relation q: [a] relation r: (q not [a]) or (q and (q or [a]))", fault(api.ErrTwice, 0, 1, 8))
	wantFaultOf(t, "type a relation q: [a] relation r: [a] or q type b relation q: [a]", api.Fault{})
	for allows, want := range map[string]api.Errno{
		"a, b":                       api.ErrType,
		"r":                          api.ErrType,
		"c":                          api.ErrType,
		"b:*":                        api.ErrType,
		"b#r":                        api.ErrType,
		"b#x with y":                 api.ErrType,
		"a, a, b":                    api.ErrTwice,
		"a, b, a, a":                 api.ErrType,
		"a#x":                        api.ErrRelation,
		"a#a":                        api.ErrRelation,
		"a#c":                        api.ErrRelation,
		"d#r":                        api.ErrRelation,
		"a#q":                        api.ErrRelation,
		"a#x with y":                 api.ErrRelation,
		"a, a#x, a":                  api.ErrRelation,
		"a with y":                   api.ErrCond,
		"a with a":                   api.ErrCond,
		"a with r":                   api.ErrCond,
		"a#r with y":                 api.ErrCond,
		"a:* with y":                 api.ErrCond,
		"a with y, a with y":         api.ErrCond,
		"a, a":                       api.ErrTwice,
		"a:*, a:*":                   api.ErrTwice,
		"a#r, d#q, a#r":              api.ErrTwice,
		"a with c, a, a with c":      api.ErrTwice,
		"a, a with y, a":             api.ErrCond,
		"a, a, a with y":             api.ErrTwice,
		"a:* with c, a, a:* with c":  api.ErrTwice,
		"a#r with c, a, a#r with c":  api.ErrTwice,
		"a, d, a:*, a#r, a#s":        api.OK,
		"a#r, d#q, a#s, d:*, d, a:*": api.OK,
		"a, a with c, a with e":      api.OK,
		"a:*, a:* with c, a:* with e, a#r, a#r with c, a#r with e": api.OK,
	} {
		f := fault(want, 1, 1, 2)
		if want == api.OK {
			f = api.Fault{}
		}
		wantFaultOf(t, "type d relation q: [d] type a relation s: [a] relation r: s or ["+allows+"] cond c(): true cond e(): true", f)
	}
}

// P9.1, 4: types, relations and nodes in their order, whatever the faults are.
func TestNodeFaultsInOrder(t *testing.T) {
	wantFaultOf(t, "type a relation r: [a] type b relation s: [a#x] relation r: x type c relation r: [y]", fault(api.ErrRelation, 1, 0, 0))
	wantFaultOf(t, "type a relation r: [a] or x or [y]", fault(api.ErrRelation, 0, 0, 2))
	wantFaultOf(t, "type a relation r: [y] or x", fault(api.ErrType, 0, 0, 1))
	wantFaultOf(t, "type a relation r: x from r or [y] relation q: [z]", fault(api.ErrArrow, 0, 0, 1))
}

// P9.1: of two faults, of all pairs of kinds, the one that comes first.
func TestFaultsInOrder(t *testing.T) {
	// Each as what is laid beside the others; the schema has the type a with the relation r ahead of them all.
	ordered := []struct {
		text string
		want api.Fault
	}{
		{"relation s: [a] relation s: [a]", fault(api.ErrTwice, 0, 2, -1)},
		{"type a", fault(api.ErrTwice, 1, -1, -1)},
		{"cond c(): true cond c(): true", fault(api.ErrTwice, 0, -1, -1)},
		{"cond d(): 1", fault(api.ErrKind, 0, 0, -1)},
		{"type b relation r: [a] relation s: x", fault(api.ErrRelation, 0, 1, 0)},
		{"type c relation r: [a] not r", fault(api.ErrStrata, 0, 0, -1)},
	}
	for i, x := range ordered {
		for _, y := range ordered[i:] {
			text := "type a relation r: [a] " + x.text
			if y != x {
				text += " " + y.text
			}
			want := x.want
			types := strings.Count(text, "type ")
			switch want.Err {
			case api.ErrKind:
				want.What = types
			case api.ErrRelation, api.ErrStrata:
				want.What = 1
			case api.ErrTwice:
				if strings.HasPrefix(x.text, "cond") {
					want.What = types + 1
				}
			}
			wantFaultOf(t, text, want)
		}
	}
}

// P9.1, 5: the first place in a bad ring, by its number; not the first ring by that of its part.
func TestBadRings(t *testing.T) {
	for text, want := range map[string]api.Fault{
		"type a relation r: [a] not r":                                                                  fault(api.ErrStrata, 0, 0, -1),
		"type a relation q: [a] relation r: q not (q not r)":                                            fault(api.ErrStrata, 0, 1, -1),
		"type a relation q: [a] relation r: [a#r] relation s: r not [a#s]":                              fault(api.ErrStrata, 0, 2, -1),
		"type a relation w: [a] relation r: w not (r from w)":                                           fault(api.ErrStrata, 0, 1, -1),
		"type a relation q: [a] type b relation r: [a] not s relation s: t relation t: [a#u]":           {Err: api.ErrRelation, What: 1, Part: 2},
		"type a relation q: [a] type b relation s: t relation t: [b#r] relation r: [a] not s":           fault(api.ErrStrata, 1, 0, -1),
		"type a relation q: [b#q] type b relation q: [b] not q from w relation w: [a, b]":               fault(api.ErrStrata, 0, 0, -1),
		"type a relation q: [b#q] type b relation x: q relation q: [b] not q from w relation w: [a, b]": fault(api.ErrStrata, 0, 0, -1),
		// Two bad rings: that of r and s leads to that of u and v, so u and v are the part of the lower number.
		"type a relation q: r relation r: [a] not s relation s: r or u relation u: [a] not v relation v: u": fault(api.ErrStrata, 0, 1, -1),
		"type a relation u: [a] not v relation v: u relation r: [a] not s relation s: r or u":               fault(api.ErrStrata, 0, 0, -1),
		// The ring of r and s is taken; that of u and v isn't, and only leads to it.
		"type a relation r: [a] or s relation s: r relation u: r not v relation v: u": fault(api.ErrStrata, 0, 2, -1),
		// A place that only leads to a bad ring, or is led to by one, isn't in it.
		"type a relation x: r relation y: [a] relation r: y not s relation s: r": fault(api.ErrStrata, 0, 2, -1),
		"type a relation x: y not r relation y: [a] relation r: y not r":         fault(api.ErrStrata, 0, 2, -1),
		// The ring is closed by an arc that is Neg and one that isn't, of the same places.
		"type a relation r: s not s relation s: [a] or r": fault(api.ErrStrata, 0, 0, -1),
	} {
		wantFaultOf(t, text, want)
	}
}
