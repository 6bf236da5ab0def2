package schema

import (
	"slices"

	"latchkey/api"
)

// ownEach answers a list of copies that have nothing in common with what they were made of.
func ownEach[T any](l []T, own func(x T) T) []T {
	all := slices.Clone(l)
	for i, x := range all {
		all[i] = own(x)
	}
	return all
}

func ownSchema(s api.Schema) api.Schema {
	return api.Schema{Types: ownEach(s.Types, ownType), Conds: ownEach(s.Conds, ownCond)}
}

func ownType(t api.Type) api.Type {
	t.Relations = ownEach(t.Relations, ownRelation)
	return t
}

func ownRelation(r api.Relation) api.Relation {
	r.Rewrite = ownRewrite(r.Rewrite)
	return r
}

func ownRewrite(l []api.Node) []api.Node {
	return ownEach(l, func(n api.Node) api.Node {
		n.Allow = slices.Clone(n.Allow)
		return n
	})
}

func ownCond(c api.Cond) api.Cond {
	c.Params = slices.Clone(c.Params)
	c.Expr = ownEach(c.Expr, func(p api.Part) api.Part {
		p.Value.Texts = slices.Clone(p.Value.Texts)
		return p
	})
	return c
}
