package check

import (
	"latchkey/api"
	"latchkey/conds"
	"latchkey/values"
)

// lets says what is known of whether a node of a fact's rewrite lets the subject in. Held and missing are for good.
func (q *question) lets(f *fact, n *node) int {
	if !q.step() {
		return open
	}
	ahead := len(q.leans)
	known := q.letsByKind(f, n)
	if known != open {
		// What some of its leaves may lean on changes nothing any more.
		q.leans = q.leans[:ahead]
	}
	return known
}

func (q *question) letsByKind(f *fact, n *node) int {
	switch n.kind {
	case api.NodeOr:
		return q.letsAny(f, n.kids)
	case api.NodeAnd:
		return q.letsAll(f, n.kids)
	case api.NodeNot:
		return q.letsFirstAlone(f, n.kids)
	}
	return q.letsLeaf(f, n)
}

func (q *question) letsAny(f *fact, kids []*node) int {
	all := missing
	for _, kid := range kids {
		switch q.lets(f, kid) {
		case held:
			return held
		case open:
			all = open
		}
	}
	return all
}

func (q *question) letsAll(f *fact, kids []*node) int {
	for _, kid := range kids {
		if one := q.lets(f, kid); one != held {
			return one
		}
	}
	return held
}

func (q *question) letsFirstAlone(f *fact, kids []*node) int {
	if first := q.lets(f, kids[0]); first != held {
		return first
	}
	switch q.lets(f, kids[1]) {
	case held:
		return missing
	case missing:
		return held
	}
	return open
}

// letsLeaf goes through a leaf once; from then on the leaf is met when something is held on which it leans.
func (q *question) letsLeaf(f *fact, n *node) int {
	switch {
	case f.met&n.bit != 0:
		return held
	case f.asked&n.bit == 0:
		f.asked |= n.bit
		known := q.goThrough(f, n)
		if known == held {
			f.met |= n.bit
		}
		return known
	case n.taken:
		// It leans on lower strata alone, and they are settled when a fact is looked at.
		return missing
	}
	return open
}

func (q *question) goThrough(f *fact, n *node) int {
	if n.kind == api.NodeSame {
		return q.letsBy(f, n, api.Grant{Object: f.grant.Object, Rel: n.rel})
	}
	all := missing
	for t := range q.src.Of(f.grant.Object, n.way) {
		if !q.step() {
			return open
		}
		switch q.letsByTuple(f, n, t) {
		case held:
			return held
		case open:
			all = open
		}
	}
	return all
}

// letsByTuple says what is known of whether a leaf lets the subject in by a tuple. (Whether that counts takes longest to tell.)
func (q *question) letsByTuple(f *fact, n *node, t api.Tuple) int {
	g := grantOf(t.Subject)
	switch {
	case n.kind == api.NodeFrom:
		g.Rel = n.rel
		if q.rule(placeOf(g)) == nil {
			return missing
		}
	case g.Rel == "":
		if q.isMeant(t.Subject) && q.counts(t) {
			return held
		}
		return missing
	}
	if q.known[g] == missing || !q.counts(t) {
		return missing
	}
	return q.letsBy(f, n, g)
}

// isMeant says whether a tuple's subject, one or all of a type, is the one that is asked for.
func (q *question) isMeant(s api.Subject) bool {
	return s == q.s || s.Id == "*" && s.Type == q.s.Type && q.s.Rel == ""
}

// letsBy says what is known of whether a leaf lets the subject in by a fact, and notes that it leans on that, if need be.
func (q *question) letsBy(f *fact, n *node, on api.Grant) int {
	switch q.known[on] {
	case held:
		return held
	case missing:
		return missing
	}
	q.leans = append(q.leans, lean{fact: f, leaf: n, on: on})
	return open
}

// counts says whether a tuple's condition is met, if it names one.
func (q *question) counts(t api.Tuple) bool {
	if t.Cond == "" {
		return true
	}
	c, _ := q.model.Cond(t.Cond)
	args, _ := values.Merge(t.Args, q.ctx)
	met, _ := conds.Eval(c, args)
	return met.Known && met.Met
}
