package unfold

import "latchkey/api"

// look is what a node of a rewrite looks like.
type look interface {
	// branch is what the node's branch says of it in the unfolding of at, ahead of any tuple.
	branch(at api.Grant) api.Branch
}

// this are those whom the tuples name.
type this struct{}

// same is another relation of the same object.
type same struct {
	rel string
}

// from is a relation of those to whom a way leads.
type from struct {
	way string
	rel string
}

// joined are nodes put together, cut with one another or taken away from one another.
type joined struct {
	kind int
	kids []look
}

func (n this) branch(at api.Grant) api.Branch {
	return api.Branch{Kind: api.NodeThis, Place: at}
}

func (n same) branch(at api.Grant) api.Branch {
	return api.Branch{Kind: api.NodeSame, Place: api.Grant{Object: at.Object, Rel: n.rel}}
}

func (n from) branch(at api.Grant) api.Branch {
	return api.Branch{Kind: api.NodeFrom, Place: api.Grant{Object: at.Object, Rel: n.way}}
}

func (n joined) branch(at api.Grant) api.Branch {
	return api.Branch{Kind: n.kind, Place: at, Kids: len(n.kids)}
}

// grower makes looks out of a list of nodes, each of which stands ahead of its kids.
type grower struct {
	rewrite []api.Node
	at      int
}

func (g *grower) grow() look {
	n := g.rewrite[g.at]
	g.at++
	switch n.Kind {
	case api.NodeThis:
		return this{}
	case api.NodeSame:
		return same{rel: n.Rel}
	case api.NodeFrom:
		return from{way: n.From, rel: n.Rel}
	}
	tree := joined{kind: n.Kind}
	for range n.Kids {
		tree.kids = append(tree.kids, g.grow())
	}
	return tree
}
