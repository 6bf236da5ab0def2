package feed_test

import (
	"math"
	"testing"

	"latchkey/api"
	"latchkey/feed"
)

// P15.2: no store; a store; no feeds yet, whatever was written.
func TestNew(t *testing.T) {
	if f, e := feed.New(nil); f != nil || e != api.ErrNil {
		t.Errorf("%v, %d", f, e)
	}
	s, f := example(t)
	wantLen(t, f, 0)
	wantNone(t, f, 1)
	wantLen(t, feedsOf(t, s), 0)
	// The numbers begin anew for each Feeds.
	g := feedsOf(t, s)
	wantFollow(t, f, 9, all, 1)
	wantFollow(t, f, 9, all, 2)
	wantLen(t, g, 0)
	wantFollow(t, g, 9, all, 1)
	wantLen(t, f, 2)
}

// P15.2: the store goes on being written to, by whoever has it.
func TestNewFollowsTheStore(t *testing.T) {
	s := newStore(t, plainText, roomy(), 0)
	f := feedsOf(t, s)
	wantFollow(t, f, 0, all, 1)
	wantNoFollow(t, f, 1, all, api.ErrFuture)
	write(t, s, in(o))
	wantFollow(t, f, 1, all, 2)
	wantTake(t, f, 1, 9, events(1, in(o))...)
	write(t, s, in(v))
	wantTake(t, f, 2, 9, events(2, in(v))...)
	wantTake(t, f, 1, 9, events(2, in(v))...)
}

// wantFollows asks at which revisions one can follow: from first on, up to the newest.
func wantFollows(t *testing.T, f *feed.Feeds, first, newest int64) {
	t.Helper()
	for rev := first - 3; rev <= newest+3; rev++ {
		switch {
		case rev > newest:
			wantNoFollow(t, f, rev, all, api.ErrFuture)
		case rev < first:
			wantNoFollow(t, f, rev, all, api.ErrGone)
		default:
			id, e := f.Follow(rev, all)
			if e != api.OK {
				t.Errorf("Follow(%d): %d", rev, e)
			}
			wantToken(t, f, id, all, rev, 0)
			wantLeave(t, f, id)
		}
	}
	for _, rev := range []int64{math.MinInt64, -1 << 40, -2, -1} {
		wantNoFollow(t, f, rev, all, api.ErrGone)
	}
	for _, rev := range []int64{1 << 50, api.MaxRev + 1, math.MaxInt64} {
		wantNoFollow(t, f, rev, all, api.ErrFuture)
	}
}

// P15.3: from the start, which no commit made, or from the one ahead of the oldest, up to the newest.
func TestFollowFrom(t *testing.T) {
	for _, start := range []int64{0, 1, 5, 1 << 40} {
		s := newStore(t, plainText, api.Limits{Tuples: 10, Keep: 4}, start)
		f := feedsOf(t, s)
		wantFollows(t, f, start, start)
		for i := range int64(3) {
			write(t, s, touch(o))
			wantFollows(t, f, start, start+i+1)
		}
		// Four revisions are kept: the start is gone, but all behind it are told.
		write(t, s)
		wantFollows(t, f, start, start+4)
		change(t, s, plainText)
		wantFollows(t, f, start+1, start+5)
		write(t, s, touch(o))
		wantFollows(t, f, start+2, start+6)
		trim(t, s, start+5)
		wantFollows(t, f, start+4, start+6)
		trim(t, s, start+5)
		wantFollows(t, f, start+4, start+6)
		trim(t, s, start+6)
		wantFollows(t, f, start+5, start+6)
		write(t, s, touch(o))
		wantFollows(t, f, start+5, start+7)
	}
}

// P15.3: a store that is trimmed to its start, and one that keeps one revision alone.
func TestFollowOfFew(t *testing.T) {
	s := newStore(t, plainText, roomy(), 5)
	f := feedsOf(t, s)
	trim(t, s, 5)
	wantFollows(t, f, 5, 5)
	write(t, s, in(o))
	trim(t, s, 5)
	wantFollows(t, f, 5, 6)
	trim(t, s, 6)
	wantFollows(t, f, 5, 6)
	s = newStore(t, plainText, api.Limits{Tuples: 10, Keep: 1}, 5)
	f = feedsOf(t, s)
	wantFollows(t, f, 5, 5)
	for i := range int64(4) {
		write(t, s, touch(o))
		wantFollows(t, f, 5+i, 6+i)
	}
}

// P15.3: a store that stands at its end.
func TestFollowAtTheEnd(t *testing.T) {
	s := newStore(t, plainText, roomy(), api.MaxRev)
	f := feedsOf(t, s)
	wantNoFollow(t, f, api.MaxRev-1, all, api.ErrGone)
	wantNoFollow(t, f, api.MaxRev+1, all, api.ErrFuture)
	wantFollow(t, f, api.MaxRev, all, 1)
	wantTake(t, f, 1, 1)
	wantResume(t, f, wantToken(t, f, 1, all, api.MaxRev, 0), 2)
	s = newStore(t, plainText, roomy(), api.MaxRev-1)
	f = feedsOf(t, s)
	wantFollow(t, f, api.MaxRev-1, all, 1)
	write(t, s, in(o), in(v))
	wantTake(t, f, 1, 1, events(api.MaxRev, in(o))...)
	wantResume(t, f, wantToken(t, f, 1, all, api.MaxRev-1, 1), 2)
	wantTake(t, f, 2, 1, events(api.MaxRev, in(v))...)
	wantTake(t, f, 1, 9, events(api.MaxRev, in(v))...)
	wantToken(t, f, 1, all, api.MaxRev, 0)
	wantToken(t, f, 2, all, api.MaxRev, 0)
}

// filled are feeds of the example's store, as many as there may be.
func filled(t *testing.T) *feed.Feeds {
	t.Helper()
	_, f := example(t)
	for i := range 64 {
		wantFollow(t, f, 5+int64(i%5), all, i+1)
	}
	return f
}

// P15.3, P15.5: 64 feeds are let through, a 65th isn't, whether by Follow or by Resume; behind a Leave there is room again, and a refused one has no number.
func TestFull(t *testing.T) {
	f := filled(t)
	token := wantToken(t, f, 1, all, 5, 0)
	for range 3 {
		wantNoFollow(t, f, 9, all, api.ErrFull)
		wantNoFollow(t, f, 5, api.Filter{Rel: "owner"}, api.ErrFull)
		wantNoResume(t, f, token, api.ErrFull)
	}
	wantLen(t, f, 64)
	wantLeave(t, f, 7)
	wantFollow(t, f, 9, all, 65)
	wantNoFollow(t, f, 9, all, api.ErrFull)
	wantNoResume(t, f, token, api.ErrFull)
	wantLeave(t, f, 65)
	wantResume(t, f, token, 66)
	wantNoResume(t, f, token, api.ErrFull)
	wantNone(t, f, 7)
	wantNone(t, f, 65)
	for id := 1; id <= 66; id++ {
		if id != 7 && id != 65 {
			wantLeave(t, f, id)
		}
	}
	wantLen(t, f, 0)
	wantFollow(t, f, 9, all, 67)
}

// The chapter's errors, where two hold at once: of Follow.
func TestFollowOrder(t *testing.T) {
	f := filled(t)
	wantNoFollow(t, f, 10, all, api.ErrFuture)
	wantNoFollow(t, f, math.MaxInt64, all, api.ErrFuture)
	wantNoFollow(t, f, 4, all, api.ErrGone)
	wantNoFollow(t, f, math.MinInt64, all, api.ErrGone)
	wantNoFollow(t, f, 9, all, api.ErrFull)
}

// P15.3: nothing is asked of a filter.
func TestFollowOddFilters(t *testing.T) {
	_, f := example(t)
	long := string(make([]byte, 5000))
	for i, let := range []api.Filter{
		{Type: "No Type"}, {Id: "*"}, {Rel: "\xff\x00"}, {Cond: "with"}, {Subject: api.Subject{Type: "", Id: "*", Rel: "member"}}, {Type: long, Cond: long}, {Type: "no", Id: "no", Rel: "no", Subject: api.Subject{Type: "no", Id: "no", Rel: "no"}, Cond: "no"},
	} {
		wantFollow(t, f, 5, let, 2*i+1)
		wantTake(t, f, 2*i+1, 9)
		wantResume(t, f, wantToken(t, f, 2*i+1, let, 9, 0), 2*i+2)
	}
}
