package strata_test

import (
	"math"
	"testing"

	"latchkey/api"
	"latchkey/strata"
)

// wrongArcs are arcs that no graph of n nodes has.
func wrongArcs(n int) []api.Arc {
	var arcs []api.Arc
	for _, k := range []int{-1, n, n + 1, -n - 1, api.MaxPlaces, math.MinInt, math.MaxInt, math.MinInt32, math.MaxInt32, 1 << 32, -1 << 32} {
		for _, neg := range []bool{false, true} {
			arcs = append(arcs, api.Arc{From: k, To: k, Neg: neg})
			if n > 0 {
				arcs = append(arcs, api.Arc{From: k, Neg: neg}, api.Arc{To: k, Neg: neg}, api.Arc{From: k, To: n - 1, Neg: neg}, api.Arc{From: n - 1, To: k, Neg: neg})
			}
		}
	}
	return arcs
}

// All four: n below 0, and above MaxPlaces.
func TestNumberOfNodes(t *testing.T) {
	for _, n := range []int{-1, -2, -api.MaxPlaces, math.MinInt, api.MaxPlaces + 1, 1 << 20, 1 << 32, 1<<32 + 1, math.MaxInt} {
		wantErr(t, n, nil, nil, api.ErrArg)
		wantErr(t, n, nil, []int{0}, api.ErrArg)
		wantErr(t, n, drawn("0>0"), nil, api.ErrArg)
	}
	for _, n := range []int{0, 1, 2, api.MaxPlaces - 1, api.MaxPlaces} {
		wantErr(t, n, nil, nil, api.OK)
		wantParts(t, n, nil, upTo(n))
		wantStrata(t, n, nil, make([]int, n))
		wantRing(t, n, nil, nil)
		wantReach(t, n, nil, nil, nil)
		wantReach(t, n, nil, upTo(n), upTo(n))
	}
}

// All four: an arc that comes from or leads to what is no node, wherever it stands.
func TestArcsOfWhatIsNoNode(t *testing.T) {
	for _, n := range []int{0, 1, 2, 7, api.MaxPlaces} {
		good := []api.Arc{{}, {From: n - 1}, {To: n - 1}, {From: n - 1, To: n - 1}}
		if n == 0 {
			good = nil
		}
		wantErr(t, n, good, nil, api.OK)
		for _, a := range wrongArcs(n) {
			wantErr(t, n, []api.Arc{a}, nil, api.ErrArc)
			for at := range len(good) + 1 {
				arcs := append(append(append([]api.Arc(nil), good[:at]...), a), good[at:]...)
				wantErr(t, n, arcs, nil, api.ErrArc)
			}
		}
	}
	// Of no node there is no arc at all.
	wantErr(t, 0, make([]api.Arc, 1), nil, api.ErrArc)
}

// P8.3: from with what is no node, wherever it stands.
func TestReachFromWhatIsNoNode(t *testing.T) {
	for _, n := range []int{0, 1, 3, api.MaxPlaces} {
		for _, k := range []int{-1, n, n + 1, math.MinInt, math.MaxInt, 1 << 32, -1 << 32} {
			for at := range 3 {
				from := []int{0, n - 1, 0}
				from[at] = k
				got, e := strata.Reach(n, nil, from)
				want(t, "Reach", n, nil, got, e, nil, api.ErrArc)
			}
			got, e := strata.Reach(n, nil, []int{k})
			want(t, "Reach", n, nil, got, e, nil, api.ErrArc)
		}
	}
}

// All four: of several reasons the first one is told.
func TestOrderOfErrors(t *testing.T) {
	long := make([]api.Arc, api.MaxArcs+1)
	longWrong := make([]api.Arc, api.MaxArcs+1)
	for i := range longWrong {
		longWrong[i] = api.Arc{From: -1, To: 9}
	}
	full := longWrong[:api.MaxArcs]
	lastWrong := make([]api.Arc, api.MaxArcs)
	lastWrong[api.MaxArcs-1].To = 1
	beyond := make([]api.Arc, api.MaxArcs+1)
	beyond[api.MaxArcs].To = 1
	for _, from := range [][]int{nil, {0}, {-1}, {5}} {
		for _, n := range []int{-1, api.MaxPlaces + 1} {
			for _, arcs := range [][]api.Arc{nil, drawn("0>0"), drawn("0!-1"), long, longWrong, full} {
				wantErr(t, n, arcs, from, api.ErrArg)
			}
		}
		for _, arcs := range [][]api.Arc{long, longWrong, beyond} {
			wantErr(t, 0, arcs, from, api.ErrLong)
			wantErr(t, 1, arcs, from, api.ErrLong)
			wantErr(t, api.MaxPlaces, arcs, from, api.ErrLong)
		}
		wantErr(t, 1, full, from, api.ErrArc)
		wantErr(t, 1, lastWrong, from, api.ErrArc)
		// A Neg arc within a part beside one that may not be.
		wantErr(t, 2, drawn("0!0 1>2"), from, api.ErrArc)
		wantErr(t, 2, drawn("0>2 1!1"), from, api.ErrArc)
	}
	wantErr(t, 1, long[:api.MaxArcs], nil, api.OK)
	// from is asked of Reach alone, behind the arcs.
	got, e := strata.Reach(2, drawn("0!0"), []int{2})
	want(t, "Reach", 2, drawn("0!0"), got, e, nil, api.ErrArc)
	wantReach(t, 2, drawn("0!0"), []int{0}, []int{0})
	wantStrata(t, 2, drawn("0!0"), nil)
}
