package schema

import (
	"slices"

	"latchkey/api"
)

// lead takes in one arc.
type lead func(a api.Arc)

// look says what is wrong with a node, and hands its arcs and those of its kids to lead.
type look func(w *walk, n api.Node, lead lead) api.Errno

// looks has one for each kind of node.
type looks [api.NodeNot + 1]look

// walk goes through the rewrite of one place, node by node.
type walk struct {
	model   *Model
	looks   looks
	here    int // the place
	typ     string
	nodes   []api.Node
	at      int  // which node is looked at
	hasThis bool // whether a NodeThis was met
}

func looksByKind() looks {
	return looks{
		api.NodeThis: (*walk).this,
		api.NodeSame: (*walk).same,
		api.NodeFrom: (*walk).from,
		api.NodeOr:   (*walk).kids,
		api.NodeAnd:  (*walk).kids,
		api.NodeNot:  (*walk).not,
	}
}

// walkOf is a walk that stands ahead of a place's first node.
func (m *Model) walkOf(place int, by looks) *walk {
	return &walk{model: m, looks: by, here: place, typ: m.place(place).Type, nodes: m.rewrite(place), at: none}
}

// next goes on to the next node and through its whole tree; where one is refused, it stays there. No more of these calls stand in one another than MaxDeep, as syntax lets no deeper tree through.
func (w *walk) next(lead lead) api.Errno {
	w.at++
	n := w.nodes[w.at]
	return w.looks[n.Kind](w, n, lead)
}

func (w *walk) kids(n api.Node, lead lead) api.Errno {
	for range n.Kids {
		if e := w.next(lead); e != api.OK {
			return e
		}
	}
	return api.OK
}

// not hands along to its second kid what makes each arc of that tree Neg, so that it stays so however many stand around it.
func (w *walk) not(_ api.Node, lead lead) api.Errno {
	if e := w.next(lead); e != api.OK {
		return e
	}
	return w.next(func(a api.Arc) {
		a.Neg = true
		lead(a)
	})
}

func (w *walk) same(n api.Node, lead lead) api.Errno {
	return w.leadTo(w.typ, n.Rel, lead)
}

func (w *walk) from(n api.Node, lead lead) api.Errno {
	if e := w.leadTo(w.typ, n.From, lead); e != api.OK {
		return e
	}
	way := w.model.rewrite(w.model.Number(w.typ, n.From))
	if !isWay(way) {
		return api.ErrArrow
	}
	e := api.ErrRelation
	for _, a := range way[0].Allow {
		// It is enough that one of the types has the relation.
		if w.leadTo(a.Type, n.Rel, lead) == api.OK {
			e = api.OK
		}
	}
	return e
}

func (w *walk) this(n api.Node, lead lead) api.Errno {
	if w.hasThis {
		return api.ErrTwice
	}
	w.hasThis = true
	for i, a := range n.Allow {
		if e := w.allow(a, n.Allow[:i], lead); e != api.OK {
			return e
		}
	}
	return api.OK
}

// allow looks at an allowance that has those ahead of it.
func (w *walk) allow(a api.Allow, ahead []api.Allow, lead lead) api.Errno {
	if w.model.number(typeName(a.Type)) == none {
		return api.ErrType
	}
	if a.Rel != "" {
		if e := w.leadTo(a.Type, a.Rel, lead); e != api.OK {
			return e
		}
	}
	switch {
	case a.Cond != "" && w.model.number(condName(a.Cond)) == none:
		return api.ErrCond
	case slices.Contains(ahead, a):
		return api.ErrTwice
	}
	return api.OK
}

// leadTo makes an arc to that place; ErrRelation, if there is none.
func (w *walk) leadTo(typ, rel string, lead lead) api.Errno {
	to := w.model.Number(typ, rel)
	if to == none {
		return api.ErrRelation
	}
	lead(api.Arc{From: w.here, To: to})
	return api.OK
}

// isWay says whether that is the rewrite of a way.
func isWay(l []api.Node) bool {
	return len(l) == 1 && l[0].Kind == api.NodeThis && !slices.ContainsFunc(l[0].Allow, func(a api.Allow) bool {
		return a.Rel != "" || a.All
	})
}
