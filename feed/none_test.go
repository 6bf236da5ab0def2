package feed_test

import (
	"math"
	"testing"

	"latchkey/api"
	"latchkey/feed"
	"latchkey/store"
)

// wantNothing asks every call of Feeds that aren't there.
func wantNothing(t *testing.T, f *feed.Feeds) {
	t.Helper()
	for _, rev := range []int64{math.MinInt64, -1, 0, 1, math.MaxInt64} {
		if id, e := f.Follow(rev, api.Filter{Type: "doc"}); id != 0 || e != api.ErrNil {
			t.Errorf("Follow(%d): %d, %d", rev, id, e)
		}
	}
	for _, token := range []string{"", "no token", plainToken(all, 0, 0), plainToken(all, 1, 1)} {
		if id, e := f.Resume(token); id != 0 || e != api.ErrNil {
			t.Errorf("Resume(%s): %d, %d", token, id, e)
		}
	}
	for _, id := range []int{math.MinInt, -1, 0, 1, math.MaxInt} {
		for _, most := range []int{math.MinInt, 0, 1, 1001} {
			if l, e := f.Take(id, most); len(l) != 0 || e != api.ErrNil {
				t.Errorf("Take(%d, %d): %v, %d", id, most, l, e)
			}
		}
		wantNoToken(t, f, id, api.ErrNil)
		if e := f.Leave(id); e != api.ErrNil {
			t.Errorf("Leave(%d): %d", id, e)
		}
	}
	wantLen(t, f, 0)
}

// DOC.md, Objects: Feeds that aren't there answer ErrNil, ahead of all else, or 0.
func TestNoFeeds(t *testing.T) {
	var none *feed.Feeds
	wantNothing(t, none)
}

// P15.2: there are no Feeds of no store.
func TestNoStore(t *testing.T) {
	var none *store.Store
	f, e := feed.New(none)
	if f != nil || e != api.ErrNil {
		t.Errorf("%v, %d", f, e)
	}
	wantNothing(t, f)
}

// No call panics: Feeds, and a store, that nothing has made answer as if they weren't there.
func TestBare(t *testing.T) {
	wantNothing(t, &feed.Feeds{})
	if f, e := feed.New(&store.Store{}); f != nil || e != api.ErrNil {
		t.Errorf("%v, %d", f, e)
	}
}
