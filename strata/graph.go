package strata

import (
	"cmp"
	"slices"

	"latchkey/api"
)

// graph has each of its arcs once, those that come from one node side by side.
type graph struct {
	arcs []api.Arc
	// first says where each node's arcs begin, and at its end where the last node's end.
	first []int
}

// graphOf takes arcs between nodes alone. They are copied, since they are the caller's.
func graphOf(n int, arcs []api.Arc) graph {
	own := slices.Clone(arcs)
	slices.SortFunc(own, compareArcs)
	own = onceEach(own)
	first := make([]int, n+1)
	for _, a := range own {
		first[a.From+1]++
	}
	for k := range n {
		first[k+1] += first[k]
	}
	return graph{own, first}
}

// compareArcs needs no order of Neg but one, so that the same arcs stand side by side.
func compareArcs(a, b api.Arc) int {
	return cmp.Or(cmp.Compare(a.From, b.From), cmp.Compare(a.To, b.To), cmp.Compare(negWeight(a), negWeight(b)))
}

// negWeight is how much higher an arc's node stands at least than the one that it leads to.
func negWeight(a api.Arc) int {
	if a.Neg {
		return 1
	}
	return 0
}

// onceEach keeps one of the arcs that are the same, in the same room; they stand side by side.
func onceEach(arcs []api.Arc) []api.Arc {
	kept := arcs[:0]
	for _, a := range arcs {
		if len(kept) == 0 || kept[len(kept)-1] != a {
			kept = append(kept, a)
		}
	}
	return kept
}

func (g graph) nodes() int {
	return len(g.first) - 1
}

// leaving answers the arcs that come from a node.
func (g graph) leaving(k int) []api.Arc {
	return g.arcs[g.first[k]:g.first[k+1]]
}

// turned is the graph whose arcs lead the other way.
func (g graph) turned() graph {
	arcs := make([]api.Arc, len(g.arcs))
	for i, a := range g.arcs {
		arcs[i] = api.Arc{From: a.To, To: a.From, Neg: a.Neg}
	}
	return graphOf(g.nodes(), arcs)
}

// spreader answers a call that goes from a node to all that it leads to. Each node is shown to meet, which says whether it is to be gone on from; it must say so of each one once at most.
func (g graph) spreader(meet func(k int) bool) func(start int) {
	var waiting []int
	show := func(k int) {
		if meet(k) {
			waiting = append(waiting, k)
		}
	}
	take := func() int {
		last := len(waiting) - 1
		k := waiting[last]
		waiting = waiting[:last]
		return k
	}
	return func(start int) {
		show(start)
		for len(waiting) > 0 {
			for _, a := range g.leaving(take()) {
				show(a.To)
			}
		}
	}
}

// reached answers the nodes that are reached from some, rising.
func (g graph) reached(from []int) []int {
	met := make([]bool, g.nodes())
	spread := g.spreader(func(k int) bool {
		isNew := !met[k]
		met[k] = true
		return isNew
	})
	for _, k := range from {
		spread(k)
	}
	return nodesWhere(g.nodes(), func(k int) bool { return met[k] })
}

// ends answers all nodes in the order in which a walk into the depth is done with them. The nodes on its way wait in a list, since calls in one another would be as deep as the graph.
func (g graph) ends() []int {
	met := make([]bool, g.nodes())
	next := slices.Clone(g.first)
	var waiting, done []int
	enter := func(k int) {
		if !met[k] {
			met[k] = true
			waiting = append(waiting, k)
		}
	}
	leave := func() {
		last := len(waiting) - 1
		done = append(done, waiting[last])
		waiting = waiting[:last]
	}
	for start := range g.nodes() {
		enter(start)
		for len(waiting) > 0 {
			k := waiting[len(waiting)-1]
			if next[k] == g.first[k+1] {
				leave()
				continue
			}
			next[k]++
			enter(g.arcs[next[k]-1].To)
		}
	}
	return done
}
