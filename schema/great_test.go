package schema_test

import (
	"slices"
	"strconv"
	"strings"
	"testing"

	"latchkey/api"
	"latchkey/syntax"
)

// letters are as many names, no longer than they need be.
func letters(n int) []string {
	var l []string
	for i := range n {
		l = append(l, strings.Repeat(string(rune('a'+i%26)), 1+i/26))
	}
	return l
}

// P9.1, P9.4: as many types and relations as there may be, in a text that is nearly as long as it may be, with as many arcs as that has room for.
func TestGreatestSchema(t *testing.T) {
	types := letters(api.MaxTypes)
	rels := letters(api.MaxRelations)
	var s api.Schema
	for _, name := range types {
		x := api.Type{Name: name}
		for k, rel := range rels {
			r := api.Relation{Name: rel, Rewrite: []api.Node{{Kind: api.NodeThis}}}
			for _, u := range types[:api.MaxAllows] {
				r.Rewrite[0].Allow = append(r.Rewrite[0].Allow, api.Allow{Type: u})
			}
			if k > 0 {
				r.Rewrite = []api.Node{{Kind: api.NodeOr, Kids: 4}}
				for i := range 4 {
					r.Rewrite = append(r.Rewrite, api.Node{Kind: api.NodeFrom, Rel: rels[1+(k+i)%25], From: rels[0]})
				}
			}
			x.Relations = append(x.Relations, r)
		}
		s.Types = append(s.Types, x)
	}
	text, e := syntax.Print(s)
	if e != api.OK || len(text) < api.MaxSource*9/10 {
		t.Fatal(e, len(text))
	}
	m := taken(t, s)
	places := api.MaxTypes * api.MaxRelations
	if len(m.Places()) != places || m.Number(types[31], rels[31]) != places-1 || m.Size() != api.MaxTypes*(1+31*5) {
		t.Error(len(m.Places()), m.Number(types[31], rels[31]), m.Size())
	}
	var want []api.Arc
	for n := range places {
		if n%api.MaxRelations == 0 {
			continue
		}
		to := []int{n / api.MaxRelations * api.MaxRelations}
		for i := range 4 {
			for u := range api.MaxAllows {
				to = append(to, u*api.MaxRelations+1+(n%api.MaxRelations+i)%25)
			}
		}
		slices.Sort(to)
		for _, k := range to {
			want = append(want, api.Arc{From: n, To: k})
		}
	}
	if !slices.Equal(m.Arcs(), want) || len(want) != api.MaxTypes*31*65 {
		t.Error(len(m.Arcs()), len(want))
	}
	wantLevels(t, m, make([]int, places))
	wantFault(t, api.Schema{Types: append(slices.Clip(s.Types), api.Type{Name: "zzz"})}, fault(api.ErrLong, -1, -1, -1))
}

// P9.4: as many strata as there are places.
func TestStrataOfAllPlaces(t *testing.T) {
	text := ""
	places := api.MaxTypes * api.MaxRelations
	for n := range places {
		if n%api.MaxRelations == 0 {
			text += "type t" + strconv.Itoa(n/api.MaxRelations) + "\n"
		}
		text += "relation r" + strconv.Itoa(n) + ": "
		if next := n + 1; next < places {
			text += "r" + strconv.Itoa(n) + " not [t" + strconv.Itoa(next/api.MaxRelations) + "#r" + strconv.Itoa(next) + "]\n"
		}
	}
	var arcs []api.Arc
	var levels []int
	for n := range places - 1 {
		arcs = append(arcs, api.Arc{From: n, To: n}, api.Arc{From: n, To: n + 1, Neg: true})
		levels = append(levels, places-1-n)
	}
	m := model(t, text+"[t0]")
	wantArcs(t, m, arcs)
	wantLevels(t, m, append(levels, 0))
	// The last one closes all of them to one bad ring, or its own.
	wantFaultOf(t, text+"[t0#r0]", fault(api.ErrStrata, 0, 0, -1))
	wantFaultOf(t, text+"[t31#r1000]", fault(api.ErrStrata, 31, 8, -1))
	wantFaultOf(t, text+"[t0] not r1023", fault(api.ErrStrata, 31, 31, -1))
}

// P9.1, P9.4: a rewrite as deep, and with as many nodes, as may be, and with one more.
func TestDeepestRewrite(t *testing.T) {
	same := api.Node{Kind: api.NodeSame, Rel: "a"}
	second := api.Node{Kind: api.NodeSame, Rel: "b"}
	nested := func(deep int, first bool) []api.Node {
		l := []api.Node{same}
		for range deep - 1 {
			if first {
				l = append(append([]api.Node{{Kind: api.NodeNot, Kids: 2}}, l...), second)
			} else {
				l = append([]api.Node{{Kind: api.NodeNot, Kids: 2}, second}, l...)
			}
		}
		return l
	}
	this := []api.Node{{Kind: api.NodeThis, Allow: []api.Allow{{Type: "t"}}}}
	of := func(l []api.Node) api.Schema {
		return api.Schema{Types: []api.Type{{Name: "t", Relations: []api.Relation{{Name: "a", Rewrite: this}, {Name: "b", Rewrite: this}, {Name: "r", Rewrite: l}}}}}
	}
	m := taken(t, of(nested(api.MaxDeep, true)))
	wantArcs(t, m, arcs("2>0 2!1"))
	m = taken(t, of(nested(api.MaxDeep, false)))
	wantArcs(t, m, arcs("2!0 2>1 2!1"))
	wantFault(t, of(nested(api.MaxDeep+1, true)), fault(api.ErrLong, 0, 2, 16))
	wide := append([]api.Node{{Kind: api.NodeOr, Kids: 63}}, slices.Repeat([]api.Node{same}, 63)...)
	m = taken(t, of(wide))
	wantArcs(t, m, arcs("2>0"))
	if m.Size() != 66 {
		t.Error(m.Size())
	}
	wide[63].Rel = "x"
	wantFault(t, of(wide), fault(api.ErrRelation, 0, 2, 63))
	wide = append(wide, same)
	wantFault(t, of(wide), fault(api.ErrLong, 0, 2, -1))
}

// P9.1: a text that is too long is told ahead of names that stand there twice.
func TestTextTooLong(t *testing.T) {
	long := strings.Repeat("n", api.MaxName)
	all := slices.Repeat([]api.Node{{Kind: api.NodeSame, Rel: long}}, 63)
	r := api.Relation{Name: long, Rewrite: append([]api.Node{{Kind: api.NodeOr, Kids: 63}}, all...)}
	s := api.Schema{Types: []api.Type{{Name: "a", Relations: slices.Repeat([]api.Relation{r}, 28)}}}
	if text, e := syntax.Print(s); e != api.OK || len(text) < api.MaxSource-2500 {
		t.Fatal(e, len(text))
	}
	wantFault(t, s, fault(api.ErrTwice, 0, 1, -1))
	s.Types[0].Relations = append(s.Types[0].Relations, r)
	wantFault(t, s, fault(api.ErrLong, -1, -1, -1))
}
