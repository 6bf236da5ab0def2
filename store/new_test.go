package store_test

import (
	"math"
	"testing"

	"latchkey/api"
	"latchkey/schema"
	"latchkey/store"
)

// P12.1: a store with the one revision start, the model and no tuples, at both ends of each bound.
func TestNew(t *testing.T) {
	for _, lim := range []api.Limits{{Tuples: 1, Keep: 1}, {Tuples: api.MaxTuples, Keep: 1}, {Tuples: 1, Keep: api.MaxKeep}, {Tuples: 65536, Keep: 1024}, {Tuples: 7, Keep: 3}} {
		for _, start := range []int64{0, 1, 5, 1 << 40, api.MaxRev - 1, api.MaxRev} {
			s := made(t, wideText, lim, start)
			wantKept(t, s, start, start)
			if s.Limits() != lim {
				t.Errorf("Limits: %v, want %v", s.Limits(), lim)
			}
			wantAt(t, s, start)
			if got := snapOf(t, s, start).Model().Schema(); schemaText(got) != schemaText(model(t, wideText).Schema()) {
				t.Errorf("another model: %s", schemaText(got))
			}
			wantNoCommit(t, s, start, api.ErrGone)
			wantNoSnap(t, s, start-1, api.ErrGone)
			wantNoSnap(t, s, start+1, api.ErrFuture)
		}
	}
}

// P12.1: numbers that are out of their bounds, by one and by far, and what isn't there goes ahead of them.
func TestNewRefused(t *testing.T) {
	m := model(t, plainText)
	good := api.Limits{Tuples: 1, Keep: 1}
	refused := func(m *schema.Model, lim api.Limits, start int64, want api.Errno) {
		t.Helper()
		if s, e := store.New(m, lim, start); s != nil || e != want {
			t.Errorf("New(%v, %d): %v, %d, want %d", lim, start, s, e, want)
		}
	}
	for _, n := range []int{0, -1, math.MinInt, api.MaxTuples + 1, math.MaxInt} {
		refused(m, api.Limits{Tuples: n, Keep: 1}, 0, api.ErrArg)
		refused(nil, api.Limits{Tuples: n, Keep: 1}, 0, api.ErrNil)
	}
	for _, n := range []int{0, -1, math.MinInt, api.MaxKeep + 1, math.MaxInt} {
		refused(m, api.Limits{Tuples: 1, Keep: n}, 0, api.ErrArg)
		refused(nil, api.Limits{Tuples: 1, Keep: n}, 0, api.ErrNil)
	}
	for _, start := range []int64{-1, math.MinInt64, api.MaxRev + 1, math.MaxInt64} {
		refused(m, good, start, api.ErrArg)
		refused(nil, good, start, api.ErrNil)
	}
	refused(m, api.Limits{}, 0, api.ErrArg)
	refused(nil, good, 0, api.ErrNil)
}

// P12.1: two stores of one model know nothing of one another.
func TestStoresApart(t *testing.T) {
	m := model(t, plainText)
	a, _ := store.New(m, api.Limits{Tuples: 5, Keep: 5}, 0)
	b, _ := store.New(m, api.Limits{Tuples: 5, Keep: 5}, 0)
	was := whole(b)
	wantWrite(t, a, 1, in(o))
	wantChange(t, a, model(t, plainText+" type more"), 2)
	a.Trim(2)
	wantWhole(t, b, was)
	wantWrite(t, b, 1, in(v))
	wantAt(t, a, 2, o)
	wantAt(t, b, 1, v)
}
