package strata_test

import (
	"slices"
	"testing"

	"latchkey/api"
)

// falling are the numbers below n, the greatest first.
func falling(n int) []int {
	l := upTo(n)
	slices.Reverse(l)
	return l
}

// P8.1 to P8.4: a chain of all nodes, of Neg arcs too, either way, and closed to a ring.
func TestChainOfAllNodes(t *testing.T) {
	n := api.MaxPlaces
	for _, neg := range []bool{false, true} {
		arcs := chain(n, neg)
		wantParts(t, n, arcs, falling(n))
		wantRing(t, n, arcs, nil)
		wantReach(t, n, arcs, []int{0}, upTo(n))
		wantReach(t, n, arcs, []int{n - 2, n - 2}, []int{n - 2, n - 1})
		levels := make([]int, n)
		if neg {
			levels = falling(n)
		}
		wantStrata(t, n, arcs, levels)
		back := slices.Clone(arcs)
		for i, a := range back {
			back[i] = api.Arc{From: a.To, To: a.From, Neg: neg}
		}
		wantParts(t, n, back, upTo(n))
		wantRing(t, n, back, nil)
		wantReach(t, n, back, []int{n - 1}, upTo(n))
		if neg {
			levels = upTo(n)
		}
		wantStrata(t, n, back, levels)
		ring := append(arcs, api.Arc{From: n - 1})
		wantParts(t, n, ring, make([]int, n))
		wantReach(t, n, ring, []int{n / 2}, upTo(n))
		if neg {
			wantStrata(t, n, ring, nil)
			wantRing(t, n, ring, upTo(n))
			continue
		}
		wantStrata(t, n, ring, make([]int, n))
		wantRing(t, n, ring, nil)
		ring[n/3].Neg = true
		wantStrata(t, n, ring, nil)
		wantRing(t, n, ring, upTo(n))
	}
}

// P8.1 to P8.4: as many arcs as there may be, of as many nodes as there may be.
func TestGreatestGraph(t *testing.T) {
	n, wide := api.MaxPlaces, api.MaxArcs/api.MaxPlaces
	// Each node to itself and to those behind it, up to the last one; what would lead beyond leads to the last one once more.
	var arcs []api.Arc
	for k := range n {
		for i := range wide {
			arcs = append(arcs, api.Arc{From: k, To: min(k+i, n-1), Neg: i == wide-1 && k+i < n})
		}
	}
	if len(arcs) != api.MaxArcs {
		t.Fatal(len(arcs))
	}
	slices.Reverse(arcs)
	wantParts(t, n, arcs, falling(n))
	wantRing(t, n, arcs, nil)
	wantReach(t, n, arcs, []int{n / 2}, upTo(n)[n/2:])
	levels := make([]int, n)
	for k := range levels {
		levels[k] = (n - 1 - k) / (wide - 1)
	}
	wantStrata(t, n, arcs, levels)
	wantErr(t, n, append(slices.Clip(arcs), api.Arc{}), nil, api.ErrLong)
	wantErr(t, n+1, arcs, nil, api.ErrArg)
	// An arc back makes one part of it all; the same arc there as often as may be makes none.
	arcs[0] = api.Arc{From: n - 1, To: 0}
	wantParts(t, n, arcs, make([]int, n))
	wantRing(t, n, arcs, upTo(n))
	wantStrata(t, n, arcs, nil)
	same := slices.Repeat([]api.Arc{{From: 3, To: 1, Neg: true}}, api.MaxArcs)
	wantParts(t, 4, same, []int{0, 1, 2, 3})
	wantStrata(t, 4, same, []int{0, 0, 0, 1})
	wantRing(t, 4, same, nil)
	wantReach(t, 4, same, []int{3}, []int{1, 3})
}

// P8.1, P8.2: one node that leads to all others, and all others to one.
func TestStars(t *testing.T) {
	n := api.MaxPlaces
	var out, in []api.Arc
	for k := 1; k < n; k++ {
		out = append(out, api.Arc{To: k, Neg: k == n/2})
		in = append(in, api.Arc{From: k - 1, To: n - 1, Neg: true})
	}
	list := make([]int, n)
	for k := range list {
		list[k] = k - 1
	}
	list[0] = n - 1
	wantParts(t, n, out, list)
	levels := make([]int, n)
	levels[0] = 1
	wantStrata(t, n, out, levels)
	for k := range list {
		list[k], levels[k] = k+1, 1
	}
	list[n-1], levels[n-1] = 0, 0
	wantParts(t, n, in, list)
	wantStrata(t, n, in, levels)
}
