package check

import "latchkey/api"

// rule is how a relation of a type comes to be.
type rule struct {
	stratum int
	top     *node
}

// node is a node of a rewrite, with its kids.
type node struct {
	kind  int
	way   string // NodeThis, NodeFrom: the relation of the tuples by which it lets in
	rel   string // NodeSame, NodeFrom: the relation that the subject must have
	taken bool   // it is taken away, so all that it leans on is of lower strata
	bit   uint64 // its own one among those of the rewrite: there are never more than MaxNodes
	kids  []*node
}

// rule is that of a place, made when it is first asked for; nil, if there is no such place.
func (a *Asker) rule(p api.Place) *rule {
	r, isMade := a.rules[p]
	if !isMade {
		r = a.newRule(p)
		a.rules[p] = r
	}
	return r
}

func (a *Asker) newRule(p api.Place) *rule {
	n := a.model.Number(p.Type, p.Rel)
	if n < 0 {
		return nil
	}
	g := grower{own: p.Rel, rewrite: a.model.Rewrite(n)}
	return &rule{stratum: a.model.Stratum(n), top: g.grow(false)}
}

// grower makes a tree out of a list of nodes, each of which stands ahead of its kids.
type grower struct {
	own     string // the relation whose rewrite it is
	rewrite []api.Node
	at      int
}

func (g *grower) grow(taken bool) *node {
	n := g.rewrite[g.at]
	tree := &node{kind: n.Kind, way: n.From, rel: n.Rel, taken: taken, bit: 1 << g.at}
	if n.Kind == api.NodeThis {
		tree.way = g.own
	}
	g.at++
	for kid := range n.Kids {
		tree.kids = append(tree.kids, g.grow(taken || n.Kind == api.NodeNot && kid == 1))
	}
	return tree
}
