package holds

import (
	"latchkey/api"
	"latchkey/schema"
)

// leaf is a node without kids, in the rewrite of a place.
type leaf struct {
	place int
	rel   string // the place's
	node  int
}

// lean is what a leaf leans on, so that whoever has a new grant or a tuple in hand finds the leaves that ask for it.
type lean struct {
	kind int
	typ  string // of the object at which it lets in
	way  string // NodeThis, NodeFrom: the relation of the tuples by which it does
	rel  string // NodeSame, NodeFrom: the relation that there must be a grant of
}

// rewritesOf are all rewrites, by the places' numbers: a model copies one each time that it is asked.
func rewritesOf(m *schema.Model) [][]api.Node {
	var all [][]api.Node
	for place := range m.Places() {
		all = append(all, m.Rewrite(place))
	}
	return all
}

// leavesOf are the leaves of the places' rewrites. (Nodes with kids stand among them, where nobody looks for them.)
func leavesOf(places []api.Place, rewrites [][]api.Node) map[lean][]leaf {
	all := map[lean][]leaf{}
	for place, p := range places {
		for i, n := range rewrites[place] {
			on := leanOf(p, n)
			all[on] = append(all[on], leaf{place: place, rel: p.Rel, node: i})
		}
	}
	return all
}

func leanOf(p api.Place, n api.Node) lean {
	if n.Kind == api.NodeThis {
		return lean{kind: n.Kind, typ: p.Type, way: p.Rel}
	}
	return lean{kind: n.Kind, typ: p.Type, way: n.From, rel: n.Rel}
}
