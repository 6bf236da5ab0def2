package store_test

import (
	"math"
	"testing"

	"latchkey/api"
	"latchkey/store"
)

// DOC.md, Objects: a store that isn't there answers ErrNil, ahead of all else, or 0.
func TestNoStore(t *testing.T) {
	var s *store.Store
	m := model(t, plainText)
	for _, l := range [][]api.Change{nil, {in(o)}, {{}}, make([]api.Change, 257)} {
		for _, pres := range [][]api.Pre{nil, {must(api.Filter{})}, make([]api.Pre, 17)} {
			if rev, e := s.Write(l, pres); rev != 0 || e != api.ErrNil {
				t.Errorf("Write: %d, %d", rev, e)
			}
		}
	}
	if rev, e := s.Change(m); rev != 0 || e != api.ErrNil {
		t.Errorf("Change: %d, %d", rev, e)
	}
	if rev, e := s.Change(nil); rev != 0 || e != api.ErrNil {
		t.Errorf("Change(nil): %d, %d", rev, e)
	}
	if s.Newest() != 0 || s.Oldest() != 0 || s.Limits() != (api.Limits{}) {
		t.Errorf("%d, %d, %v", s.Newest(), s.Oldest(), s.Limits())
	}
	for _, rev := range []int64{math.MinInt64, -1, 0, 1, math.MaxInt64} {
		if e := s.Trim(rev); e != api.ErrNil {
			t.Errorf("Trim(%d): %d", rev, e)
		}
		wantNoSnap(t, s, rev, api.ErrNil)
		wantNoCommit(t, s, rev, api.ErrNil)
		wantNoRead(t, s, rev, 1, api.ErrNil)
		wantNoRead(t, s, rev, 0, api.ErrNil)
	}
}

// P12.7: a snapshot that isn't there has no revision, no model, no tuples.
func TestNoSnap(t *testing.T) {
	var s *store.Snap
	if s.Rev() != 0 || s.Model() != nil || s.Len() != 0 {
		t.Errorf("%d, %v, %d", s.Rev(), s.Model(), s.Len())
	}
	for _, x := range []api.Tuple{{}, fact(o), fact(w)} {
		if y, ok := s.Find(x); ok || wholeTuple(y) != wholeTuple(api.Tuple{}) {
			t.Errorf("Find: %s, %v", wholeTuple(y), ok)
		}
		wantTuples(t, "Of", s.Of(x.Object, x.Rel))
		wantTuples(t, "By", s.By(x.Subject))
	}
	wantTuples(t, "All", s.All())
	var src store.Source = s
	wantTuples(t, "a source's All", src.All())
}

// P12.3: no model, beside a store that stands at its end too.
func TestNoModel(t *testing.T) {
	wantNoChange(t, roomy(t, plainText, o), nil, api.ErrNil)
	wantNoChange(t, made(t, plainText, api.Limits{Tuples: 1, Keep: 1}, api.MaxRev), nil, api.ErrNil)
}

// No call panics: a store and a snapshot that nothing has made answer as if they weren't there.
func TestBare(t *testing.T) {
	s, snap := &store.Store{}, &store.Snap{}
	if rev, e := s.Write(ins(o), nil); rev != 0 || e != api.ErrNil {
		t.Errorf("Write: %d, %d", rev, e)
	}
	if rev, e := s.Change(model(t, plainText)); rev != 0 || e != api.ErrNil {
		t.Errorf("Change: %d, %d", rev, e)
	}
	if e := s.Trim(0); e != api.ErrNil {
		t.Errorf("Trim: %d", e)
	}
	wantKept(t, s, 0, 0)
	wantNoSnap(t, s, 0, api.ErrNil)
	wantNoCommit(t, s, 0, api.ErrNil)
	wantNoRead(t, s, 0, 1, api.ErrNil)
	wantTuples(t, "All", snap.All())
	wantTuples(t, "Of", snap.Of(api.Object{}, ""))
	wantTuples(t, "By", snap.By(api.Subject{}))
	if x, ok := snap.Find(api.Tuple{}); ok || snap.Len() != 0 || snap.Model() != nil {
		t.Errorf("%s, %d", wholeTuple(x), snap.Len())
	}
}
