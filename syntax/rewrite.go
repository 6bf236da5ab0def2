package syntax

import "latchkey/api"

// rewriteReader reads a rewrite. The parentheses that are open stand in a list, not in calls within one another: a text has room for more of them than a stack may have.
type rewriteReader struct {
	*place
	tree[api.Node]
	groups []group
}

// group is what stands in one pair of parentheses, or outside of all: how many units have come, and by which kind of node they are joined; 0: there is but one.
type group struct {
	join  int
	units int
}

func (r *rewriteReader) read() {
	r.groups = []group{{}}
	for len(r.groups) > 0 {
		for r.mark("(") {
			r.groups = append(r.groups, group{})
		}
		r.unit()
		r.behindUnit()
	}
}

// unit reads a unit that isn't in parentheses.
func (r *rewriteReader) unit() {
	if r.mark("[") {
		r.put(api.Node{Kind: api.NodeThis, Allow: r.allows()}, 0)
		return
	}
	n := api.Node{Kind: api.NodeSame, Rel: r.name()}
	if r.word("from") {
		n.Kind, n.From = api.NodeFrom, r.name()
	}
	r.put(n, 0)
}

func (r *rewriteReader) allows() []api.Allow {
	l := []api.Allow{r.allow()}
	for r.mark(",") {
		l = append(l, r.allow())
	}
	r.needMark("]")
	return l
}

func (r *rewriteReader) allow() api.Allow {
	a := api.Allow{Type: r.name()}
	switch {
	case r.mark(":"):
		r.needMark("*")
		a.All = true
	case r.mark("#"):
		a.Rel = r.name()
	}
	if r.word("with") {
		a.Cond = r.name()
	}
	return a
}

// behindUnit goes on to where the next unit must begin, over all parentheses that end behind the one that was read; no group is left, if the rewrite ends there.
func (r *rewriteReader) behindUnit() {
	for {
		last := len(r.groups) - 1
		g := &r.groups[last]
		g.units++
		if r.joined(g) {
			return
		}
		if g.units > 1 {
			r.put(api.Node{Kind: g.join, Kids: g.units}, g.units)
		}
		r.groups = r.groups[:last]
		if last == 0 {
			return
		}
		r.needMark(")")
	}
}

// joined steps over a word by which the group goes on: its own, or any, if none has come; but a second not never stands.
func (r *rewriteReader) joined(g *group) bool {
	for kind := api.NodeOr; kind <= api.NodeNot; kind++ {
		fits := g.join == 0 || g.join == kind && kind != api.NodeNot
		if fits && r.word(joins[kind]) {
			g.join = kind
			return true
		}
	}
	return false
}
