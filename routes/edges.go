package routes

import (
	"cmp"
	"slices"
	"strings"

	"latchkey/api"
	"latchkey/schema"
)

// How a node stands in its rewrite, by what stands above it. The worse one goes ahead where several do.
const (
	atOnce = iota // whom it lets in the relation lets in
	looked        // it gives, but others have a say in it
	taken         // it gives nothing
)

// walk goes through the rewrites of a model, place by place, and keeps the edges that their nodes make.
type walk struct {
	model   *schema.Model
	edges   map[api.Edge]int // of each, as it is but for Exact, how the best of the nodes that make it stands
	place   api.Place
	rewrite []api.Node
	at      int // the node that comes next
}

// edges are those of m, rising.
func edges(m *schema.Model) []api.Edge {
	w := walk{model: m, edges: map[api.Edge]int{}}
	for n, p := range m.Places() {
		w.place, w.rewrite, w.at = p, m.Rewrite(n), 0
		w.next(atOnce)
	}
	var l []api.Edge
	for e, stands := range w.edges {
		e.Exact = stands == atOnce
		l = append(l, e)
	}
	slices.SortFunc(l, compareEdges)
	return l
}

// next goes through the tree of the next node. No more of these calls stand in one another than MaxDeep, as no model has a deeper tree.
func (w *walk) next(stands int) {
	n := w.rewrite[w.at]
	w.at++
	switch n.Kind {
	case api.NodeThis:
		w.this(n, stands)
	case api.NodeSame:
		w.add(api.Edge{Kind: api.EdgeSame, From: api.Place{Type: w.place.Type, Rel: n.Rel}}, stands)
	case api.NodeFrom:
		w.from(n, stands)
	}
	for kid := range n.Kids {
		w.next(max(stands, under(n.Kind, kid)))
	}
}

// under is how a kid of a node of that kind stands, by that node alone.
func under(kind, kid int) int {
	switch {
	case kind == api.NodeNot && kid == 1:
		return taken
	case kind == api.NodeNot || kind == api.NodeAnd:
		return looked
	}
	return atOnce
}

func (w *walk) this(n api.Node, stands int) {
	for _, a := range n.Allow {
		e := api.Edge{Kind: api.EdgeDirect, From: api.Place{Type: a.Type, Rel: a.Rel}, All: a.All}
		if a.Rel != "" {
			e.Kind = api.EdgeSet
		}
		w.add(e, stands)
	}
}

func (w *walk) from(n api.Node, stands int) {
	for _, a := range w.model.Allows(w.model.Number(w.place.Type, n.From)) {
		if isPlace(w.model, a.Type, n.Rel) {
			w.add(api.Edge{Kind: api.EdgeFrom, From: api.Place{Type: a.Type, Rel: n.Rel}, Way: n.From}, stands)
		}
	}
}

// add keeps an edge to the place, if a node that stands so makes one.
func (w *walk) add(e api.Edge, stands int) {
	if stands == taken {
		return
	}
	e.To = w.place
	if best, isThere := w.edges[e]; !isThere || stands < best {
		w.edges[e] = stands
	}
}

// compareEdges leaves Exact out: no two edges of a model differ in that alone.
func compareEdges(a, b api.Edge) int {
	return cmp.Or(
		comparePlaces(a.To, b.To),
		cmp.Compare(a.Kind, b.Kind),
		comparePlaces(a.From, b.From),
		strings.Compare(a.Way, b.Way),
		cmp.Compare(allRank(a), allRank(b)),
	)
}

func allRank(e api.Edge) int {
	if e.All {
		return 1
	}
	return 0
}

func comparePlaces(a, b api.Place) int {
	return cmp.Or(strings.Compare(a.Type, b.Type), strings.Compare(a.Rel, b.Rel))
}
