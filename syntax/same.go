package syntax

import (
	"slices"

	"latchkey/api"
	"latchkey/values"
)

// Same says whether a and b are written alike, tree by tree and field by field.
func Same(a, b api.Schema) bool {
	return slices.EqualFunc(a.Types, b.Types, sameType) && slices.EqualFunc(a.Conds, b.Conds, sameCond)
}

func sameType(a, b api.Type) bool {
	return a.Name == b.Name && slices.EqualFunc(a.Relations, b.Relations, sameRelation)
}

func sameRelation(a, b api.Relation) bool {
	return a.Name == b.Name && slices.EqualFunc(a.Rewrite, b.Rewrite, sameNode)
}

func sameNode(a, b api.Node) bool {
	return a.Kind == b.Kind && a.Rel == b.Rel && a.From == b.From && a.Kids == b.Kids && slices.Equal(a.Allow, b.Allow)
}

func sameCond(a, b api.Cond) bool {
	return a.Name == b.Name && slices.Equal(a.Params, b.Params) && slices.EqualFunc(a.Expr, b.Expr, samePart)
}

func samePart(a, b api.Part) bool {
	return a.Kind == b.Kind && a.Name == b.Name && sameValue(a.Value, b.Value)
}

// sameValue holds two that are no values for the same, which values.Same doesn't.
func sameValue(a, b api.Value) bool {
	return a.Kind == api.ValNone && b.Kind == api.ValNone || values.Same(a, b)
}
