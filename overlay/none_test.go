package overlay_test

import (
	"testing"

	"latchkey/api"
	"latchkey/overlay"
	"latchkey/store"
)

// wantNoSource asks for ErrNil, whatever else is asked: nothing, what is right, what is wrong, too much.
func wantNoSource(t *testing.T, src store.Source) {
	t.Helper()
	right, wrong, long := facts("doc:1#owner@user:ann"), facts("file:1#owner@user:ann"), make([]api.Tuple, 65)
	for _, more := range [][]api.Tuple{nil, right, wrong, append(right, right...), long} {
		for _, less := range [][]api.Tuple{nil, right, wrong, append(right, right...), long} {
			if o, e := overlay.Over(src, more, less); o != nil || e != api.ErrNil {
				t.Errorf("Over(%v, %d, %d): %v, %d", src, len(more), len(less), o, e)
			}
		}
	}
}

// P13.1: there is no source where it is nil, or its Model is.
func TestNoSource(t *testing.T) {
	var snap *store.Snap
	var o *overlay.Overlay
	wantNoSource(t, nil)
	wantNoSource(t, snap)
	wantNoSource(t, o)
	refused, _ := overlay.Over(exampleSnap(t), facts("file:1#owner@user:ann"), nil)
	wantNoSource(t, refused)
	gone, _ := stored(t, model(t, plainText)).Snap(9)
	wantNoSource(t, gone)
}

// wantNothing asks all of an overlay that isn't there.
func wantNothing(t *testing.T, o *overlay.Overlay) {
	t.Helper()
	if o.Model() != nil || o.Len() != 0 {
		t.Errorf("%v, %d", o.Model(), o.Len())
	}
	for _, x := range append(facts(mixed()...), api.Tuple{}) {
		wantTuples(t, "Of", o.Of(x.Object, x.Rel))
		wantTuples(t, "By", o.By(x.Subject))
	}
	wantTuples(t, "All", o.All())
	var src store.Source = o
	wantTuples(t, "a source's All", src.All())
	if src.Len() != 0 || src.Model() != nil {
		t.Errorf("%d, %v", src.Len(), src.Model())
	}
}

// P13.2: of one that isn't there: sequences of nothing, no model, 0.
func TestNoOverlay(t *testing.T) {
	wantNothing(t, nil)
	refused, e := overlay.Over(nil, nil, nil)
	if e != api.ErrNil {
		t.Errorf("%d", e)
	}
	wantNothing(t, refused)
}

// No call panics: an overlay that Over hasn't made answers as if it weren't there.
func TestBare(t *testing.T) {
	wantNothing(t, &overlay.Overlay{})
	wantNoSource(t, &overlay.Overlay{})
	wantNoSource(t, &store.Snap{})
}
