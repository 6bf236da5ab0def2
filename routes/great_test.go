package routes_test

import (
	"slices"
	"strings"
	"testing"

	"latchkey/api"
	"latchkey/schema"
)

// letters are as many names, no longer than they need be.
func letters(n int) []string {
	var l []string
	for i := range n {
		l = append(l, strings.Repeat(string(rune('a'+i%26)), 1+i/26))
	}
	return l
}

func taken(t *testing.T, s api.Schema) *schema.Model {
	t.Helper()
	m, fault := schema.Of(s)
	if fault.Err != api.OK {
		t.Fatalf("%+v", fault)
	}
	return m
}

// manyWays has as many places as there may be, each of which takes four relations from a way that leads to as many types as may be.
func manyWays(t *testing.T) *schema.Model {
	t.Helper()
	types, rels := letters(api.MaxTypes), letters(api.MaxRelations)
	var s api.Schema
	for _, name := range types {
		x := api.Type{Name: name}
		for k, rel := range rels {
			r := api.Relation{Name: rel, Rewrite: []api.Node{{Kind: api.NodeThis}}}
			for _, u := range types[:api.MaxAllows] {
				r.Rewrite[0].Allow = append(r.Rewrite[0].Allow, api.Allow{Type: u})
			}
			if k > 0 {
				r.Rewrite = []api.Node{{Kind: api.NodeOr, Kids: 4}}
				for i := range 4 {
					r.Rewrite = append(r.Rewrite, api.Node{Kind: api.NodeFrom, Rel: rels[(k+i)%api.MaxRelations], From: rels[0]})
				}
			}
			x.Relations = append(x.Relations, r)
		}
		s.Types = append(s.Types, x)
	}
	return taken(t, s)
}

// P19.1, P19.3, P19.4: a model with as many places as there may be, and as many edges as its text has room for.
func TestManyEdges(t *testing.T) {
	m := manyWays(t)
	l := edgesOf(t, m)
	if want := api.MaxTypes * (api.MaxAllows + 31*4*api.MaxAllows); len(l) != want {
		t.Errorf("%d edges, want %d", len(l), want)
	}
	if !slices.IsSortedFunc(l, risingEdges) || slices.ContainsFunc(l, func(e api.Edge) bool { return !e.Exact }) {
		t.Error("they don't rise, or some isn't exact")
	}
	places := could(t, m, subject("a:1"))
	if len(places) != len(m.Places()) || !slices.IsSortedFunc(places, risingPlaces) {
		t.Errorf("%d places", len(places))
	}
	// Beyond those to which ways lead, nobody comes.
	if l := could(t, m, subject("z:1")); len(l) != 0 {
		t.Errorf("%d places", len(l))
	}
	types := letters(api.MaxAllows)
	if l := who(t, m, place("z.z")); !slices.Equal(l, types) {
		t.Errorf("%q", l)
	}
}

// P19.3, P19.4: the longest way through a model.
func TestLongestWay(t *testing.T) {
	types, rels := letters(api.MaxTypes), letters(api.MaxRelations)
	var s api.Schema
	last := api.Allow{Type: types[0]}
	for _, typ := range types {
		x := api.Type{Name: typ}
		for _, rel := range rels {
			x.Relations = append(x.Relations, api.Relation{Name: rel, Rewrite: []api.Node{{Kind: api.NodeThis, Allow: []api.Allow{last}}}})
			last = api.Allow{Type: typ, Rel: rel}
		}
		s.Types = append(s.Types, x)
	}
	m := taken(t, s)
	numbered := m.Places()
	if l := could(t, m, subject("a:1")); len(l) != len(numbered) {
		t.Errorf("%d places", len(l))
	}
	for n, p := range numbered {
		if n%100 > 0 {
			continue
		}
		want := slices.Clone(numbered[n:])
		slices.SortFunc(want, risingPlaces)
		if l := could(t, m, api.Subject{Type: p.Type, Id: "1", Rel: p.Rel}); !slices.Equal(l, want) {
			t.Errorf("%s: %d places, want %d", placeText(p), len(l), len(want))
		}
		wantWho(t, m, placeText(p), "a")
	}
}

// P19.1: the deepest rewrite, and the one of the most nodes.
func TestDeepestRewrite(t *testing.T) {
	for kind, exact := range map[int]string{api.NodeOr: " exact", api.NodeAnd: "", api.NodeNot: ""} {
		var l []api.Node
		for range api.MaxDeep - 1 {
			l = append(l, api.Node{Kind: kind, Kids: 2})
		}
		l = append(l, api.Node{Kind: api.NodeSame, Rel: "a"})
		for range api.MaxDeep - 1 {
			l = append(l, api.Node{Kind: api.NodeSame, Rel: "b"})
		}
		m := taken(t, api.Schema{Types: []api.Type{{Name: "d", Relations: []api.Relation{
			{Name: "a", Rewrite: []api.Node{{Kind: api.NodeThis, Allow: []api.Allow{{Type: "d"}}}}},
			{Name: "b", Rewrite: []api.Node{{Kind: api.NodeThis, Allow: []api.Allow{{Type: "d"}}}}},
			{Name: "r", Rewrite: l},
		}}}})
		want := []string{"d.a: direct d exact", "d.b: direct d exact", "d.r: same d.a" + exact, "d.r: same d.b" + exact}
		if kind == api.NodeNot {
			want = want[:3]
		}
		if got := edgeTexts(edgesOf(t, m)); !slices.Equal(got, want) {
			t.Errorf("%q, want %q", got, want)
		}
	}
	many := strings.Repeat("a or ", api.MaxNodes-2) + "b from w"
	wantEdgesTo(t, "type d relation w: [d] relation a: [d] relation b: [d] relation r: "+many, "d.r", "same d.a exact", "from d.b way w exact")
}
