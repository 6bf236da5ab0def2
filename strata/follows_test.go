package strata_test

import (
	"slices"
	"testing"

	"latchkey/api"
	"latchkey/strata"
)

// got is what the calls answer of a graph.
type got struct {
	parts, levels, ring []int
	err                 api.Errno // that of Strata
	reach               [][]int   // from each node
}

func ask(t *testing.T, n int, arcs []api.Arc) got {
	t.Helper()
	var g got
	var e, f api.Errno
	g.parts, e = strata.Parts(n, arcs)
	g.levels, g.err = strata.Strata(n, arcs)
	g.ring, f = strata.Ring(n, arcs)
	if e != api.OK || f != api.OK || g.err != api.OK && g.err != api.ErrStrata {
		t.Fatal(show(n, arcs), e, f, g.err)
	}
	for k := range n {
		l, e := strata.Reach(n, arcs, []int{k})
		if e != api.OK {
			t.Fatal(show(n, arcs), e)
		}
		g.reach = append(g.reach, l)
	}
	return g
}

// P8.5: parts by what is reached, strata by the arcs that lead out of a part, ErrStrata by Ring.
func TestWhatFollows(t *testing.T) {
	c := seeded(2)
	for i := range 1500 {
		n, arcs := anyGraph(c, 3+i/50)
		g := ask(t, n, arcs)
		for j := range n {
			for k := range n {
				both := slices.Contains(g.reach[j], k) && slices.Contains(g.reach[k], j)
				if both != (g.parts[j] == g.parts[k]) {
					t.Errorf("%s: %d and %d: %v, parts %v", show(n, arcs), j, k, both, g.parts)
				}
			}
		}
		for _, a := range arcs {
			if g.parts[a.From] < g.parts[a.To] {
				t.Errorf("%s: an arc leads to a greater number: %v, %v", show(n, arcs), a, g.parts)
			}
		}
		if (g.err == api.ErrStrata) != (len(g.ring) > 0) {
			t.Errorf("%s: %d, ring %v", show(n, arcs), g.err, g.ring)
		}
		if g.err == api.OK {
			followStrata(t, n, arcs, g)
		} else {
			followRing(t, n, arcs, g)
		}
	}
}

// followStrata asks of each part that its stratum is 0 or the greatest that the arcs out of it ask for.
func followStrata(t *testing.T, n int, arcs []api.Arc, g got) {
	t.Helper()
	if !areStrata(arcs, g.levels) {
		t.Errorf("%s: %v are no strata", show(n, arcs), g.levels)
	}
	for k := range n {
		level := 0
		for _, a := range arcs {
			if g.parts[a.From] != g.parts[k] || g.parts[a.To] == g.parts[k] {
				continue
			}
			if a.Neg {
				level = max(level, g.levels[a.To]+1)
			} else {
				level = max(level, g.levels[a.To])
			}
		}
		if g.levels[k] != level {
			t.Errorf("%s: node %d is on %d, not on %d", show(n, arcs), k, g.levels[k], level)
		}
	}
}

// followRing asks that the ring is one whole part, that a Neg arc leads within it, and within no part of a lower number.
func followRing(t *testing.T, n int, arcs []api.Arc, g got) {
	t.Helper()
	number := g.parts[g.ring[0]]
	for k := range n {
		if slices.Contains(g.ring, k) != (g.parts[k] == number) {
			t.Errorf("%s: the ring %v is no part of %v", show(n, arcs), g.ring, g.parts)
		}
	}
	least := n
	for _, a := range arcs {
		if a.Neg && g.parts[a.From] == g.parts[a.To] {
			least = min(least, g.parts[a.From])
		}
	}
	if least != number {
		t.Errorf("%s: the ring is part %d, not %d", show(n, arcs), number, least)
	}
}

// P8.5: arcs in another order, or named twice, change nothing.
func TestOrderOfArcs(t *testing.T) {
	c := seeded(3)
	for i := range 600 {
		n, arcs := anyGraph(c, 3+i/30)
		g := ask(t, n, arcs)
		other := slices.Clone(arcs)
		for _, a := range arcs {
			for range c.Intn(3) {
				other = append(other, a)
			}
		}
		c.Shuffle(len(other), func(j, k int) { other[j], other[k] = other[k], other[j] })
		wantSame(t, n, arcs, g, ask(t, n, other))
		slices.Reverse(other)
		wantSame(t, n, arcs, g, ask(t, n, other))
	}
}

func wantSame(t *testing.T, n int, arcs []api.Arc, g, h got) {
	t.Helper()
	if !slices.Equal(g.parts, h.parts) || !slices.Equal(g.levels, h.levels) || !slices.Equal(g.ring, h.ring) || g.err != h.err || !slices.EqualFunc(g.reach, h.reach, slices.Equal) {
		t.Errorf("%s: %v, with other arcs %v", show(n, arcs), g, h)
	}
}

// P8.5: with other numbers for the nodes the same nodes are in one part, on one stratum, reached.
func TestOtherNumbers(t *testing.T) {
	c := seeded(4)
	for i := range 600 {
		n, arcs := anyGraph(c, 3+i/30)
		g := ask(t, n, arcs)
		number := c.Perm(n)
		other := slices.Clone(arcs)
		for i, a := range other {
			other[i].From, other[i].To = number[a.From], number[a.To]
		}
		h := ask(t, n, other)
		if g.err != h.err {
			t.Errorf("%s: %d; with the numbers %v: %d", show(n, arcs), g.err, number, h.err)
		}
		for j := range n {
			if g.err == api.OK && h.err == api.OK && g.levels[j] != h.levels[number[j]] {
				t.Errorf("%s: strata %v; with the numbers %v: %v", show(n, arcs), g.levels, number, h.levels)
			}
			for k := range n {
				if (g.parts[j] == g.parts[k]) != (h.parts[number[j]] == h.parts[number[k]]) {
					t.Errorf("%s: parts %v; with the numbers %v: %v", show(n, arcs), g.parts, number, h.parts)
				}
			}
			moved := make([]int, len(g.reach[j]))
			for i, k := range g.reach[j] {
				moved[i] = number[k]
			}
			slices.Sort(moved)
			if !slices.Equal(moved, h.reach[number[j]]) {
				t.Errorf("%s: from %d: %v; with the numbers %v: %v", show(n, arcs), j, g.reach[j], number, h.reach[number[j]])
			}
		}
	}
}

// P8.5: what is reached from some is what is reached from each, together, in whatever order they are named.
func TestReachedTogether(t *testing.T) {
	c := seeded(5)
	for i := range 600 {
		n, arcs := anyGraph(c, 3+i/30)
		from := some(c, n)
		var all []int
		for _, k := range from {
			l, _ := strata.Reach(n, arcs, []int{k})
			all = append(all, l...)
		}
		slices.Sort(all)
		all = slices.Compact(all)
		wantReach(t, n, arcs, from, all)
		slices.Reverse(from)
		wantReach(t, n, arcs, from, all)
		wantReach(t, n, arcs, append(from, from...), all)
		// What is reached reaches nothing more.
		wantReach(t, n, arcs, all, all)
	}
}
