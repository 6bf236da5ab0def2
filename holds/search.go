package holds

import (
	"slices"

	"latchkey/api"
	"latchkey/conds"
	"latchkey/schema"
	"latchkey/store"
	"latchkey/values"
)

// search goes from a subject to all that it has, the way against that in which a rewrite asks: from each grant to the leaves that lean on it. So each tuple is come by a few times, however long the ways are.
type search struct {
	src      store.Source
	model    *schema.Model
	ctx      []api.Arg
	rewrites [][]api.Node
	leaves   map[lean][]leaf
	met      map[api.Grant]uint64 // the leaves that let the subject in, a bit a node: there are never more than MaxNodes
	held     map[api.Grant]int    // what the subject has, with the numbers of the places
	waiting  []map[api.Grant]int  // by strata: where a leaf has come to let the subject in, and its rewrite wasn't asked since
}

// found are the grants of s, with the numbers of their places.
func found(src store.Source, s api.Subject, ctx []api.Arg) map[api.Grant]int {
	m := src.Model()
	x := &search{src: src, model: m, ctx: ctx, rewrites: rewritesOf(m), met: map[api.Grant]uint64{}, held: map[api.Grant]int{}}
	x.leaves = leavesOf(m.Places(), x.rewrites)
	for range strata(m) {
		x.waiting = append(x.waiting, map[api.Grant]int{})
	}
	x.begin(s)
	for level := range x.waiting {
		x.settle(level)
	}
	return x.held
}

// begin meets the leaves that lean on nothing but who the subject is.
func (x *search) begin(s api.Subject) {
	if s.Rel != "" {
		// A set has itself, whatever its rewrite says; places of lower strata don't lean on that, so it may come ahead of them.
		x.hold(api.Grant{Object: api.Object{Type: s.Type, Id: s.Id}, Rel: s.Rel}, x.model.Number(s.Type, s.Rel))
		return
	}
	x.follow(s, api.NodeThis, "")
	x.follow(api.Subject{Type: s.Type, Id: "*"}, api.NodeThis, "")
}

// settle finds the grants of a stratum. What is taken away there leans on lower ones, of which nothing more will be met.
func (x *search) settle(level int) {
	for len(x.waiting[level]) > 0 {
		round := x.waiting[level]
		// What the grants of this round lead to waits for the next one.
		x.waiting[level] = map[api.Grant]int{}
		for g, place := range round {
			if _, isHeld := x.held[g]; !isHeld && letsIn(x.rewrites[place], x.met[g]) {
				x.hold(g, place)
			}
		}
	}
}

// hold takes a new grant in, and meets the leaves that lean on it.
func (x *search) hold(g api.Grant, place int) {
	x.held[g] = place
	for _, l := range x.leaves[lean{kind: api.NodeSame, typ: g.Object.Type, rel: g.Rel}] {
		x.meet(g.Object, l)
	}
	x.follow(api.Subject{Type: g.Object.Type, Id: g.Object.Id}, api.NodeFrom, g.Rel)
	x.follow(api.Subject{Type: g.Object.Type, Id: g.Object.Id, Rel: g.Rel}, api.NodeThis, "")
}

// follow meets the leaves of that kind that let in by a tuple of that subject, and, of a NodeFrom, by that relation.
func (x *search) follow(s api.Subject, kind int, rel string) {
tuples:
	for t := range x.src.By(s) {
		for _, l := range x.leaves[lean{kind: kind, typ: t.Object.Type, way: t.Rel, rel: rel}] {
			if !x.counts(t) {
				continue tuples
			}
			x.meet(t.Object, l)
		}
	}
}

// meet notes that a leaf lets the subject in at o, and lets what may come of that wait.
func (x *search) meet(o api.Object, l leaf) {
	g := api.Grant{Object: o, Rel: l.rel}
	bit := uint64(1) << l.node
	if x.met[g]&bit == 0 {
		x.met[g] |= bit
		x.waiting[x.model.Stratum(l.place)][g] = l.place
	}
}

// counts says whether a tuple's condition is met, if it names one.
func (x *search) counts(t api.Tuple) bool {
	if t.Cond == "" {
		return true
	}
	c, _ := x.model.Cond(t.Cond)
	args, _ := values.Merge(t.Args, x.ctx)
	met, _ := conds.Eval(c, args)
	return met.Known && met.Met
}

// letsIn says whether a rewrite lets in, of whose leaves the met ones do.
func letsIn(rewrite []api.Node, met uint64) bool {
	// Kids stand behind their node, so they are done ahead of it: the first kid is the last one that was done.
	var room [api.MaxNodes]bool
	done := room[:0]
	for i, n := range slices.Backward(rewrite) {
		ahead := len(done) - n.Kids
		done = append(done[:ahead], nodeLetsIn(n.Kind, done[ahead:], met>>i&1 == 1))
	}
	return done[0]
}

// nodeLetsIn says whether a node lets in: by its kids, the first of which stands last, or, where it has none, if it is met.
func nodeLetsIn(kind int, kids []bool, isMet bool) bool {
	switch kind {
	case api.NodeOr:
		return slices.Contains(kids, true)
	case api.NodeAnd:
		return !slices.Contains(kids, false)
	case api.NodeNot:
		return kids[1] && !kids[0]
	}
	return isMet
}
