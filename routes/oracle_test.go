package routes_test

import (
	"cmp"
	"slices"

	"latchkey/api"
	"latchkey/schema"
)

// above is a node that stands above another one, and in the tree of which of its kids that one stands.
type above struct {
	kind int
	kid  int
}

// treeEnd is where the tree of a node of a rewrite ends.
func treeEnd(l []api.Node, at int) int {
	end := at + 1
	for range l[at].Kids {
		end = treeEnd(l, end)
	}
	return end
}

// allAbove are the nodes that stand above one.
func allAbove(l []api.Node, node int) []above {
	var stands []above
	for at := range node {
		if treeEnd(l, at) <= node {
			continue
		}
		kid, begin := 0, at+1
		for treeEnd(l, begin) <= node {
			begin = treeEnd(l, begin)
			kid++
		}
		stands = append(stands, above{l[at].Kind, kid})
	}
	return stands
}

func gives(stands []above) bool {
	return !slices.Contains(stands, above{api.NodeNot, 1})
}

func givesAtOnce(stands []above) bool {
	return !slices.ContainsFunc(stands, func(a above) bool { return a.kind == api.NodeAnd || a.kind == api.NodeNot })
}

// plainMade are the edges that one node makes, by the chapter's table.
func plainMade(m *schema.Model, to api.Place, n api.Node) []api.Edge {
	var l []api.Edge
	switch n.Kind {
	case api.NodeThis:
		for _, a := range n.Allow {
			if a.Rel == "" {
				l = append(l, api.Edge{Kind: api.EdgeDirect, To: to, From: api.Place{Type: a.Type}, All: a.All})
			} else {
				l = append(l, api.Edge{Kind: api.EdgeSet, To: to, From: api.Place{Type: a.Type, Rel: a.Rel}})
			}
		}
	case api.NodeSame:
		l = append(l, api.Edge{Kind: api.EdgeSame, To: to, From: api.Place{Type: to.Type, Rel: n.Rel}})
	case api.NodeFrom:
		for _, u := range m.Schema().Types {
			isAllowed := slices.ContainsFunc(m.Allows(m.Number(to.Type, n.From)), func(a api.Allow) bool { return a.Type == u.Name })
			hasRel := slices.ContainsFunc(u.Relations, func(r api.Relation) bool { return r.Name == n.Rel })
			if isAllowed && hasRel {
				l = append(l, api.Edge{Kind: api.EdgeFrom, To: to, From: api.Place{Type: u.Name, Rel: n.Rel}, Way: n.From})
			}
		}
	}
	return l
}

// inexact is an edge but for Exact.
func inexact(e api.Edge) api.Edge {
	e.Exact = false
	return e
}

// plainEdges are the edges of a model by the chapter's Words, place by place, node by node; came counts what came up by the way.
func plainEdges(m *schema.Model, came map[string]int) []api.Edge {
	var l []api.Edge
	for n, to := range m.Places() {
		rewrite := m.Rewrite(n)
		for at, node := range rewrite {
			stands := allAbove(rewrite, at)
			countNode(node, stands, came)
			if !gives(stands) {
				continue
			}
			for _, e := range plainMade(m, to, node) {
				is := slices.IndexFunc(l, func(x api.Edge) bool { return inexact(x) == e })
				if is < 0 {
					e.Exact = givesAtOnce(stands)
					l = append(l, e)
					continue
				}
				came["made twice"]++
				if l[is].Exact != givesAtOnce(stands) {
					came["at once and not"]++
				}
				l[is].Exact = l[is].Exact || givesAtOnce(stands)
			}
		}
		countUnmade(m, to, rewrite, l, came)
	}
	slices.SortFunc(l, risingEdges)
	return l
}

// countNode counts how a node stands.
func countNode(n api.Node, stands []above, came map[string]int) {
	if n.Kind >= api.NodeOr {
		return
	}
	var nots []above
	for _, a := range stands {
		if a.kind == api.NodeNot {
			nots = append(nots, a)
		}
	}
	if len(nots) > 1 && nots[len(nots)-1].kid == 1 {
		came[[]string{"taken in a first kid", "taken in a second kid"}[nots[len(nots)-2].kid]]++
	}
	for i, a := range stands {
		if i > 0 && a.kind == api.NodeOr && stands[i-1].kind == api.NodeAnd {
			came["and above or"]++
		}
		if i > 0 && a.kind == api.NodeAnd && stands[i-1].kind == api.NodeOr {
			came["or above and"]++
		}
	}
	if n.Kind == api.NodeThis {
		countAllows(n.Allow, came)
	}
}

func countAllows(l []api.Allow, came map[string]int) {
	for i, a := range l {
		for _, b := range l[:i] {
			a.Cond, b.Cond = "", ""
			if a == b {
				came["differ in their Cond"]++
			}
			if a.Type == b.Type && a.Rel == b.Rel && a.All != b.All {
				came["all beside plain"]++
			}
		}
	}
}

// countUnmade counts the edges to a place that only what is taken away would make, and what ways lead to.
func countUnmade(m *schema.Model, to api.Place, rewrite []api.Node, l []api.Edge, came map[string]int) {
	for _, n := range rewrite {
		for _, e := range plainMade(m, to, n) {
			if !slices.ContainsFunc(l, func(x api.Edge) bool { return inexact(x) == e }) {
				came["taken away alone"]++
			}
		}
		if n.Kind == api.NodeFrom {
			types := map[string]int{}
			for _, a := range m.Allows(m.Number(to.Type, n.From)) {
				types[a.Type] = 1
			}
			if made := len(plainMade(m, to, n)); made > 1 && made < len(types) {
				came["a way to several, and to some without"]++
			}
		}
	}
}

// risingEdges says that edges rise by To, Kind, From, Way and All.
func risingEdges(a, b api.Edge) int {
	all := map[bool]int{true: 1}
	return cmp.Or(risingPlaces(a.To, b.To), cmp.Compare(a.Kind, b.Kind), risingPlaces(a.From, b.From), cmp.Compare(a.Way, b.Way), cmp.Compare(all[a.All], all[b.All]))
}

func risingPlaces(a, b api.Place) int {
	return cmp.Or(cmp.Compare(a.Type, b.Type), cmp.Compare(a.Rel, b.Rel))
}

// plainCould is the least set of places of a subject, made round by round until nothing is new.
func plainCould(l []api.Edge, s api.Subject) []api.Place {
	var in []api.Place
	take := func(p api.Place) bool {
		isNew := !slices.Contains(in, p)
		if isNew {
			in = append(in, p)
		}
		return isNew
	}
	if s.Rel != "" {
		take(api.Place{Type: s.Type, Rel: s.Rel})
	} else {
		for _, e := range l {
			if e.Kind == api.EdgeDirect && e.From.Type == s.Type {
				take(e.To)
			}
		}
	}
	for isNew := true; isNew; {
		isNew = false
		for _, e := range l {
			if e.Kind != api.EdgeDirect && slices.Contains(in, e.From) && take(e.To) {
				isNew = true
			}
		}
	}
	slices.SortFunc(in, risingPlaces)
	return in
}
