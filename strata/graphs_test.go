package strata_test

import (
	"slices"
	"testing"

	"latchkey/api"
)

// everyGraph shows all graphs of n nodes: between each two, and from each one to itself, no arc, one, a Neg one, or both.
func everyGraph(n int, show func(arcs []api.Arc)) {
	var pick func(k int, arcs []api.Arc)
	pick = func(k int, arcs []api.Arc) {
		if k == n*n {
			show(arcs)
			return
		}
		a, b := api.Arc{From: k / n, To: k % n}, api.Arc{From: k / n, To: k % n, Neg: true}
		for _, more := range [][]api.Arc{nil, {a}, {b}, {b, a}} {
			pick(k+1, append(slices.Clip(arcs), more...))
		}
	}
	pick(0, nil)
}

// P8.1 to P8.4: all graphs of up to three nodes, by the chapter's words.
func TestEverySmallGraph(t *testing.T) {
	for n := range 4 {
		good, bad := 0, 0
		everyGraph(n, func(arcs []api.Arc) {
			if t.Failed() {
				return
			}
			wantParts(t, n, arcs, partsOf(n, arcs))
			wantRing(t, n, arcs, ringOf(n, arcs))
			for set := range 1 << n {
				from := slices.DeleteFunc(upTo(n), func(k int) bool { return set>>k&1 == 0 })
				wantReach(t, n, arcs, from, reachOf(n, arcs, from))
			}
			least, ok := leastStrata(n, arcs)
			if !ok {
				bad++
				wantStrata(t, n, arcs, nil)
				return
			}
			good++
			wantStrata(t, n, arcs, least)
			if !areStrata(arcs, least) {
				t.Errorf("%s: %v are no strata", show(n, arcs), least)
			}
		})
		if n == 3 && (good < 1000 || bad < 1000) {
			t.Error(good, bad)
		}
	}
}

// P8.1 to P8.4: graphs of many nodes.
func TestAnyGraph(t *testing.T) {
	c := seeded(1)
	good, bad, heights := 0, 0, map[int]int{}
	for i := range 6000 {
		n, arcs := anyGraph(c, 6+i/120)
		wantParts(t, n, arcs, partsOf(n, arcs))
		wantRing(t, n, arcs, ringOf(n, arcs))
		from := some(c, n)
		wantReach(t, n, arcs, from, reachOf(n, arcs, from))
		level, ok := strataOf(n, arcs)
		if !ok {
			bad++
			wantStrata(t, n, arcs, nil)
			continue
		}
		good++
		heights[slices.Max(level)]++
		wantStrata(t, n, arcs, level)
	}
	if good < 1500 || bad < 1500 || heights[0] < 100 || heights[1] < 100 || heights[2] < 100 || heights[4] < 20 {
		t.Error(good, bad, heights)
	}
}

// P8.1: of several parts that can come next the one with the least node has the number, whatever has become ready when.
func TestTheLeastNodeComesNext(t *testing.T) {
	for s, list := range map[string][]int{
		"":                             {0, 1, 2, 3, 4, 5},
		"0>5":                          {5, 0, 1, 2, 3, 4},
		"5>0":                          {0, 1, 2, 3, 4, 5},
		"0>1 1>2 2>3 3>4 4>5":          {5, 4, 3, 2, 1, 0},
		"5>4 4>3 3>2 2>1 1>0":          {0, 1, 2, 3, 4, 5},
		"1>4 0>4 3>4 2>4":              {1, 2, 3, 4, 0, 5},
		"0>3":                          {3, 0, 1, 2, 4, 5},
		"1>2 0>5":                      {5, 1, 0, 2, 3, 4},
		"3>5 5>3 0>4":                  {4, 0, 1, 2, 3, 2},
		"0>5 5>0 1>5 2>4":              {0, 1, 4, 2, 3, 0},
		"1>5 5>1 5>4":                  {0, 4, 1, 2, 3, 4},
		"2>2 2>2 0!2 1!2 1>0":          {1, 2, 0, 3, 4, 5},
		"0>1 1>2 2>0 2>3 3>4 4>5 5>3":  {1, 1, 1, 0, 0, 0},
		"3>4 4>5 5>3 3>2 0>1 1>2 2>0":  {0, 0, 0, 1, 1, 1},
		"0>1 1>0 1>2 2>1 2>3 3>2 3>0":  {0, 0, 0, 0, 1, 2},
		"0>1 1>0 1>2 2>1 2>3 3>4 4>3":  {1, 1, 1, 0, 0, 2},
		"0!5 5!0 1!4 4!1 2!3 3!2 0!1":  {1, 0, 2, 2, 0, 1},
		"0>2 2>4 4>0 1>3 3>5 5>1 0>3":  {1, 0, 1, 0, 1, 0},
		"0>2 2>4 4>0 1>3 3>5 5>1 5>4":  {0, 1, 0, 1, 0, 1},
		"4>2 2>4 3>1 1>3 5>4 0>3 0>0":  {1, 0, 2, 0, 2, 3},
		"4>2 2>4 3>1 1>3 5>4 0>5 0>0":  {3, 0, 1, 0, 1, 2},
		"0>1 0>2 0>3 0>4 0>5 5>1 4>1":  {5, 0, 1, 2, 3, 4},
		"0>5 1>4 2>3 3>4 4>5":          {1, 3, 5, 4, 2, 0},
		"0>1, 0>1, 0>1, 1>2, 1>2, 1>1": {2, 1, 0, 3, 4, 5},
	} {
		wantParts(t, 6, drawn(s), list)
		if own := partsOf(6, drawn(s)); !slices.Equal(own, list) {
			t.Errorf("%s: the tests' own way says %v, not %v", s, own, list)
		}
	}
}

// P8.1, P8.4: rings within rings are one part; one arc less, and they are more.
func TestRingsWithinRings(t *testing.T) {
	// Eight rings of four each, each entered from the one ahead at another node; and back from the last one.
	var arcs []api.Arc
	for r := range 8 {
		for i := range 4 {
			arcs = append(arcs, api.Arc{From: r*4 + i, To: r*4 + (i+1)%4})
		}
		arcs = append(arcs, api.Arc{From: r*4 + 3, To: (r*4 + 6) % 32})
	}
	wantParts(t, 32, arcs, make([]int, 32))
	wantStrata(t, 32, arcs, make([]int, 32))
	wantRing(t, 32, arcs, nil)
	wantReach(t, 32, arcs, []int{17}, upTo(32))
	arcs[22].Neg = true
	wantStrata(t, 32, arcs, nil)
	wantRing(t, 32, arcs, upTo(32))
	arcs[22].Neg = false
	// Without the way back each ring is a part by itself, the last one the first.
	arcs = arcs[:len(arcs)-1]
	list := make([]int, 32)
	for k := range list {
		list[k] = 7 - k/4
	}
	wantParts(t, 32, arcs, list)
	arcs[22].Neg = true // Within the fifth ring.
	wantRing(t, 32, arcs, []int{16, 17, 18, 19})
	wantStrata(t, 32, arcs, nil)
	arcs[2].Neg = true // Within the first one, whose number is greater.
	wantRing(t, 32, arcs, []int{16, 17, 18, 19})
	arcs[22].Neg, arcs[2].Neg = false, false
	arcs[14].Neg, arcs[24].Neg = true, true // Between the third and the fourth, the fifth and the sixth.
	wantRing(t, 32, arcs, nil)
	for k := range list {
		list[k] = []int{2, 2, 2, 1, 1, 0, 0, 0}[k/4]
	}
	wantStrata(t, 32, arcs, list)
}

// P8.2, P8.4: a Neg arc within a part, from a node to itself, between parts, in chains.
func TestNegArcs(t *testing.T) {
	for _, x := range []struct {
		n      int
		arcs   string
		levels []int
		ring   []int
	}{
		{1, "", []int{0}, nil},
		{1, "0>0", []int{0}, nil},
		{1, "0!0", nil, []int{0}},
		{1, "0>0 0!0 0>0", nil, []int{0}},
		{2, "0!1", []int{1, 0}, nil},
		{2, "0>1 0!1", []int{1, 0}, nil},
		{2, "0!1 0>1", []int{1, 0}, nil},
		{2, "0!1 0!1 0!1", []int{1, 0}, nil},
		{2, "0!1 1!0", nil, []int{0, 1}},
		{2, "0>1 1>0", []int{0, 0}, nil},
		{2, "0>1 1>0 0!1", nil, []int{0, 1}},
		{3, "0!1 1>0 2>0", nil, []int{0, 1}},
		{3, "0>1 1>0 0!2", []int{1, 1, 0}, nil},
		{3, "0>1 1>0 2!0", []int{0, 0, 1}, nil},
		{3, "0>1 1>2 2!0", nil, []int{0, 1, 2}},
		{4, "0!1 0!2 1!3 2>3", []int{2, 1, 0, 0}, nil},
		{4, "0>1 1!2 2>3 0!3", []int{1, 1, 0, 0}, nil},
		{4, "3>2 2!1 1>0 3!0", []int{0, 0, 1, 1}, nil},
		// Of several such parts the one with the least number, which need not be the one with the least node.
		{4, "0!0 1!1 2!2 3!3", nil, []int{0}},
		{4, "0!0 0>3 3!3", nil, []int{3}},
		{4, "0!1 1>0 1>2 2!3 3>2", nil, []int{2, 3}},
		{4, "0!1 1>0 2!3 3>2", nil, []int{0, 1}},
		{4, "0!3 3>0 1!2 2>1 0>1", nil, []int{1, 2}},
		{4, "0!3 3>0 1!2 2>1", nil, []int{0, 3}},
		{4, "0>3 3>0 1!2 2>1", nil, []int{1, 2}},
		// Those above a bad part are none; nor is one whose Neg arc leads out of it.
		{5, "0!1 1>2 2>1 2!3 3!4 4>3", nil, []int{3, 4}},
		{5, "4>3 3>4 4!2 2>1 1>2 1!0", []int{0, 1, 1, 2, 2}, nil},
	} {
		arcs := drawn(x.arcs)
		wantStrata(t, x.n, arcs, x.levels)
		wantRing(t, x.n, arcs, x.ring)
	}
}

// P8.3: from that is empty, that names a node twice, all nodes; arcs against which nothing is reached.
func TestReach(t *testing.T) {
	arcs := drawn("0>1 1>2 2>0 2!3 3!4 5>4 5>5 6!6")
	for _, x := range []struct{ from, list []int }{
		{nil, nil},
		{[]int{}, nil},
		{[]int{0}, []int{0, 1, 2, 3, 4}},
		{[]int{2}, []int{0, 1, 2, 3, 4}},
		{[]int{3}, []int{3, 4}},
		{[]int{4}, []int{4}},
		{[]int{4, 4, 4}, []int{4}},
		{[]int{5}, []int{4, 5}},
		{[]int{6}, []int{6}},
		{[]int{7}, []int{7}},
		{[]int{7, 5, 3}, []int{3, 4, 5, 7}},
		{[]int{7, 5, 7, 5}, []int{4, 5, 7}},
		{[]int{4, 0}, []int{0, 1, 2, 3, 4}},
		{[]int{7, 6, 5, 4, 3, 2, 1, 0}, upTo(8)},
	} {
		wantReach(t, 8, arcs, x.from, x.list)
	}
	// Far more in from than there are nodes.
	many := make([]int, 100000)
	for i := range many {
		many[i] = 3 + i%2
	}
	wantReach(t, 8, arcs, many, []int{3, 4})
}
