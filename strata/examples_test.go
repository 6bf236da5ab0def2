package strata_test

import (
	"testing"

	"latchkey/api"
	"latchkey/strata"
)

// The chapter's first example.
func TestExample1(t *testing.T) {
	arcs := drawn("0>1, 1>2, 2>1, 3!1")
	wantParts(t, 4, arcs, []int{1, 0, 0, 2})
	wantStrata(t, 4, arcs, []int{0, 0, 0, 1})
	wantRing(t, 4, arcs, nil)
	wantReach(t, 4, arcs, []int{0}, []int{0, 1, 2})
	wantReach(t, 4, arcs, []int{3, 2}, []int{1, 2, 3})
	wantReach(t, 4, arcs, nil, nil)
}

// The chapter's second example.
func TestExample2(t *testing.T) {
	wantParts(t, 3, nil, []int{0, 1, 2})
	wantStrata(t, 3, nil, []int{0, 0, 0})
	wantParts(t, 3, drawn("0>2"), []int{2, 0, 1})
	for name, call := range calls() {
		if got, e := call(0, nil, nil); len(got) != 0 || e != api.OK {
			t.Error(name, got, e)
		}
	}
}

// The chapter's third example.
func TestExample3(t *testing.T) {
	arcs := drawn("0!1, 1>0")
	wantStrata(t, 2, arcs, nil)
	wantRing(t, 2, arcs, []int{0, 1})
	wantParts(t, 2, arcs, []int{0, 0})
	arcs = drawn("1!1")
	wantRing(t, 2, arcs, []int{1})
	wantParts(t, 2, arcs, []int{0, 1})
	wantStrata(t, 2, arcs, nil)
	wantStrata(t, 4, drawn("0!1, 1!2, 2!3, 0>3"), []int{3, 2, 1, 0})
}

// The chapter's fourth example.
func TestExample4(t *testing.T) {
	arcs := drawn("0!0, 2!3, 3>2, 1>0")
	wantParts(t, 4, arcs, []int{0, 1, 2, 2})
	wantRing(t, 4, arcs, []int{0})
}

// The chapter's fifth example.
func TestExample5(t *testing.T) {
	wantErr(t, -1, nil, nil, api.ErrArg)
	wantErr(t, 4097, nil, nil, api.ErrArg)
	wantErr(t, 2, drawn("0>2"), nil, api.ErrArc)
	wantErr(t, 2, drawn("-1>0"), nil, api.ErrArc)
	if got, e := strata.Reach(2, nil, []int{2}); len(got) != 0 || e != api.ErrArc {
		t.Error(got, e)
	}
}
