package schema_test

import (
	"slices"

	"latchkey/api"
	"latchkey/conds"
	"latchkey/syntax"
)

// What the chapter says of a schema, asked word by word, each time anew.

type spot struct {
	place api.Place
	what  int
	part  int
	l     []api.Node
}

// spots are the places of a schema, by their numbers.
func spots(s api.Schema) []spot {
	var l []spot
	for i, t := range s.Types {
		for k, r := range t.Relations {
			l = append(l, spot{api.Place{Type: t.Name, Rel: r.Name}, i, k, r.Rewrite})
		}
	}
	return l
}

// rewriteOf is the rewrite of a place, and whether there is one.
func rewriteOf(s api.Schema, p api.Place) ([]api.Node, bool) {
	for _, x := range spots(s) {
		if x.place == p {
			return x.l, true
		}
	}
	return nil, false
}

func isPlace(s api.Schema, typ, rel string) bool {
	_, ok := rewriteOf(s, api.Place{Type: typ, Rel: rel})
	return ok
}

func isType(s api.Schema, name string) bool {
	return slices.ContainsFunc(s.Types, func(t api.Type) bool { return t.Name == name })
}

func isCond(s api.Schema, name string) bool {
	return slices.ContainsFunc(s.Conds, func(c api.Cond) bool { return c.Name == name })
}

// allowsOf are the allowances of the this of a rewrite.
func allowsOf(l []api.Node) []api.Allow {
	var all []api.Allow
	for _, n := range l {
		all = append(all, n.Allow...)
	}
	return all
}

func isWay(l []api.Node) bool {
	for _, a := range allowsOf(l) {
		if a != (api.Allow{Type: a.Type, Cond: a.Cond}) {
			return false
		}
	}
	return len(l) == 1 && l[0].Kind == api.NodeThis
}

// takenAway are the nodes of the tree at k that are taken away, and where it ends; within says whether all are.
func takenAway(l []api.Node, k int, within bool) ([]int, int) {
	var all []int
	if within {
		all = append(all, k)
	}
	end := k + 1
	for kid := range l[k].Kids {
		var of []int
		of, end = takenAway(l, end, within || l[k].Kind == api.NodeNot && kid == 1)
		all = append(all, of...)
	}
	return all, end
}

// leadsTo says whether a node of a rewrite of that type makes an arc to the place.
func leadsTo(s api.Schema, typ string, n api.Node, to api.Place) bool {
	switch n.Kind {
	case api.NodeSame:
		return to == api.Place{Type: typ, Rel: n.Rel}
	case api.NodeFrom:
		way := api.Place{Type: typ, Rel: n.From}
		l, _ := rewriteOf(s, way)
		return to == way || to.Rel == n.Rel && allowsType(l, to.Type)
	case api.NodeThis:
		return slices.ContainsFunc(n.Allow, func(a api.Allow) bool { return a.Type == to.Type && a.Rel == to.Rel })
	}
	return false
}

// arcsOf are the arcs of a schema: each one that may be is asked for, in order.
func arcsOf(s api.Schema) []api.Arc {
	var all []api.Arc
	for from, x := range spots(s) {
		away, _ := takenAway(x.l, 0, false)
		for to, y := range spots(s) {
			for _, neg := range []bool{false, true} {
				for k, n := range x.l {
					if slices.Contains(away, k) == neg && leadsTo(s, x.place.Type, n, y.place) {
						all = append(all, api.Arc{From: from, To: to, Neg: neg})
						break
					}
				}
			}
		}
	}
	return all
}

// led says which place leads to which.
func led(n int, arcs []api.Arc) [][]bool {
	m := make([][]bool, n)
	for i := range m {
		m[i] = make([]bool, n)
	}
	for _, a := range arcs {
		m[a.From][a.To] = true
	}
	for k := range n {
		for i := range n {
			for j := range n {
				m[i][j] = m[i][j] || m[i][k] && m[k][j]
			}
		}
	}
	return m
}

// inBadRing says whether a Neg arc leads among the places of k's part.
func inBadRing(k int, arcs []api.Arc, m [][]bool) bool {
	among := func(i int) bool { return i == k || m[i][k] && m[k][i] }
	return slices.ContainsFunc(arcs, func(a api.Arc) bool { return a.Neg && among(a.From) && among(a.To) })
}

// levelsOf raises each place as far as an arc asks, until none asks; there must be no bad ring.
func levelsOf(n int, arcs []api.Arc) []int {
	level := make([]int, n)
	for again := true; again; {
		again = false
		for _, a := range arcs {
			want := level[a.To]
			if a.Neg {
				want++
			}
			if level[a.From] < want {
				level[a.From], again = want, true
			}
		}
	}
	return level
}

// faultOf is the first fault that P9.1 says of a schema.
func faultOf(s api.Schema) api.Fault {
	if f := syntax.Check(s); f.Err != api.OK {
		return f
	}
	for _, look := range []func(api.Schema) api.Fault{twiceOf, condsOf, nodesOf, ringsOf} {
		if f := look(s); f.Err != api.OK {
			return f
		}
	}
	return api.Fault{}
}

func twiceOf(s api.Schema) api.Fault {
	for i, t := range s.Types {
		for _, u := range s.Types[:i] {
			if t.Name == u.Name {
				return fault(api.ErrTwice, i, -1, -1)
			}
		}
		for k, r := range t.Relations {
			for _, q := range t.Relations[:k] {
				if r.Name == q.Name {
					return fault(api.ErrTwice, i, k, -1)
				}
			}
		}
	}
	for i, c := range s.Conds {
		for _, d := range s.Conds[:i] {
			if c.Name == d.Name {
				return fault(api.ErrTwice, len(s.Types)+i, -1, -1)
			}
		}
	}
	return api.Fault{}
}

func condsOf(s api.Schema) api.Fault {
	for i, c := range s.Conds {
		if f := conds.Check(c); f.Err != api.OK {
			return fault(f.Err, len(s.Types)+i, f.Part, f.Node)
		}
	}
	return api.Fault{}
}

func nodesOf(s api.Schema) api.Fault {
	for _, x := range spots(s) {
		for k := range x.l {
			if e := nodeErr(s, x.place.Type, x.l, k); e != api.OK {
				return fault(e, x.what, x.part, k)
			}
		}
	}
	return api.Fault{}
}

func nodeErr(s api.Schema, typ string, l []api.Node, k int) api.Errno {
	n := l[k]
	switch n.Kind {
	case api.NodeSame:
		if !isPlace(s, typ, n.Rel) {
			return api.ErrRelation
		}
	case api.NodeFrom:
		way, ok := rewriteOf(s, api.Place{Type: typ, Rel: n.From})
		if !ok {
			return api.ErrRelation
		}
		if !isWay(way) {
			return api.ErrArrow
		}
		if !slices.ContainsFunc(s.Types, func(t api.Type) bool { return allowsType(way, t.Name) && isPlace(s, t.Name, n.Rel) }) {
			return api.ErrRelation
		}
	case api.NodeThis:
		if slices.ContainsFunc(l[:k], func(n api.Node) bool { return n.Kind == api.NodeThis }) {
			return api.ErrTwice
		}
		for i := range n.Allow {
			if e := allowErr(s, n.Allow, i); e != api.OK {
				return e
			}
		}
	}
	return api.OK
}

// allowsType says whether the this of a rewrite allows something of that type.
func allowsType(way []api.Node, typ string) bool {
	return slices.ContainsFunc(allowsOf(way), func(a api.Allow) bool { return a.Type == typ })
}

func allowErr(s api.Schema, l []api.Allow, i int) api.Errno {
	a := l[i]
	if !isType(s, a.Type) {
		return api.ErrType
	}
	if a.Rel != "" && !isPlace(s, a.Type, a.Rel) {
		return api.ErrRelation
	}
	if a.Cond != "" && !isCond(s, a.Cond) {
		return api.ErrCond
	}
	for _, b := range l[:i] {
		if a.Type == b.Type && a.Rel == b.Rel && a.All == b.All && a.Cond == b.Cond {
			return api.ErrTwice
		}
	}
	return api.OK
}

func ringsOf(s api.Schema) api.Fault {
	all, arcs := spots(s), arcsOf(s)
	m := led(len(all), arcs)
	for k, x := range all {
		if inBadRing(k, arcs, m) {
			return fault(api.ErrStrata, x.what, x.part, -1)
		}
	}
	return api.Fault{}
}
