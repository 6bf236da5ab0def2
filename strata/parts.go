package strata

import (
	"cmp"
	"slices"
)

// none stands for no part.
const none = -1

// parts answers the number of each node's part.
func (g graph) parts() []int {
	ring, count := g.rings()
	number := g.numbers(ring, count)
	part := make([]int, len(ring))
	for k, r := range ring {
		part[k] = number[r]
	}
	return part
}

// rings answers which nodes are in one part, and how many parts there are; here these are counted by their least nodes, rising.
func (g graph) rings() ([]int, int) {
	head := g.heads()
	ring, count := make([]int, len(head)), 0
	byHead := slices.Repeat([]int{none}, len(head))
	for k, h := range head {
		if byHead[h] == none {
			byHead[h] = count
			count++
		}
		ring[k] = byHead[h]
	}
	return ring, count
}

// heads answers for each node one of its part, the same for all of a part. Of the nodes without one take that with which a walk into the depth is done last: only arcs from its own part lead to its part, but for those of nodes that have one, so what spreads from it against the arcs is just its part.
func (g graph) heads() []int {
	head := slices.Repeat([]int{none}, g.nodes())
	current := none
	spread := g.turned().spreader(func(k int) bool {
		isNew := head[k] == none
		if isNew {
			head[k] = current
		}
		return isNew
	})
	for _, k := range slices.Backward(g.ends()) {
		current = k
		spread(k)
	}
	return head
}

// numbers answers the number of each ring. A ring can come when no arc is left that leads from it to one without a number.
func (g graph) numbers(ring []int, count int) []int {
	owed := make([]int, count)
	comers := make([][]int, count)
	for _, a := range g.arcs {
		if from, to := ring[a.From], ring[a.To]; from != to {
			owed[from]++
			comers[to] = append(comers[to], from)
		}
	}
	wait, take := queue()
	for r, left := range slices.Backward(owed) {
		if left == 0 {
			wait(r)
		}
	}
	number := make([]int, count)
	for next := range count {
		r := take()
		number[r] = next
		for _, c := range comers[r] {
			owed[c]--
			if owed[c] == 0 {
				wait(c)
			}
		}
	}
	return number
}

// queue answers two calls that share what waits: one that lets a ring wait, one that takes the least one that does. The least stands on top.
func queue() (func(r int), func() int) {
	var waiting []int
	wait := func(r int) {
		at, _ := slices.BinarySearchFunc(waiting, r, func(x, r int) int { return cmp.Compare(r, x) })
		waiting = slices.Insert(waiting, at, r)
	}
	take := func() int {
		last := len(waiting) - 1
		r := waiting[last]
		waiting = waiting[:last]
		return r
	}
	return wait, take
}

// badPart answers the least number of a part within which a Neg arc leads; none, if there is none.
func (g graph) badPart(part []int) int {
	bad := none
	for _, a := range g.arcs {
		p := part[a.From]
		if a.Neg && p == part[a.To] && (bad == none || p < bad) {
			bad = p
		}
	}
	return bad
}

// levels answers the least stratum of each node. All arcs lead to parts with lower numbers, so these are settled ahead; or, none of them Neg, to the same part, where they change nothing.
func (g graph) levels(part []int) []int {
	order := nodesWhere(g.nodes(), func(int) bool { return true })
	slices.SortFunc(order, func(j, k int) int { return cmp.Compare(part[j], part[k]) })
	height := make([]int, g.nodes())
	for _, k := range order {
		p := part[k]
		for _, a := range g.leaving(k) {
			height[p] = max(height[p], height[part[a.To]]+negWeight(a))
		}
	}
	level := make([]int, g.nodes())
	for k, p := range part {
		level[k] = height[p]
	}
	return level
}
