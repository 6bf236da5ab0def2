package feed_test

import (
	"math"
	"testing"

	"latchkey/api"
)

// P15.6: a feed that is left is gone, the others stay, and its number comes never again.
func TestLeave(t *testing.T) {
	s, f := example(t)
	wantFollow(t, f, 5, all, 1)
	wantFollow(t, f, 6, api.Filter{Rel: "owner"}, 2)
	wantFollow(t, f, 9, all, 3)
	wantLeave(t, f, 2)
	wantToken(t, f, 1, all, 5, 0)
	wantToken(t, f, 3, all, 9, 0)
	wantFollow(t, f, 7, all, 4)
	wantNone(t, f, 2)
	wantLeave(t, f, 4)
	wantFollow(t, f, 7, all, 5)
	wantNone(t, f, 4)
	wantLeave(t, f, 1)
	wantLeave(t, f, 3)
	wantLeave(t, f, 5)
	wantLen(t, f, 0)
	write(t, s, touch(v))
	for id := range 7 {
		wantNone(t, f, id)
	}
	wantFollow(t, f, 10, all, 6)
	wantResume(t, f, wantToken(t, f, 6, all, 10, 0), 7)
}

// P15.4 to P15.6: numbers of which there never was a feed.
func TestNoFeed(t *testing.T) {
	_, f := example(t)
	wantFollow(t, f, 5, all, 1)
	for _, id := range []int{math.MinInt, -1, 0, 2, 3, 64, 65, 1 << 40, math.MaxInt} {
		wantNone(t, f, id)
	}
	wantTake(t, f, 1, 1, events(6, in(o))...)
}

// P15.3, P15.5, P15.6: a number is one more than that of the feed made last, by Follow or Resume; what is refused takes none.
func TestNumbers(t *testing.T) {
	_, f := example(t)
	token := plainToken(all, 5, 1)
	for id := 1; id < 300; {
		wantFollow(t, f, 5, all, id)
		wantNoFollow(t, f, 4, all, api.ErrGone)
		wantNoFollow(t, f, 10, all, api.ErrFuture)
		wantLeave(t, f, id)
		wantResume(t, f, token, id+1)
		wantNoResume(t, f, "", api.ErrResume)
		wantNoResume(t, f, plainToken(all, 5, 2), api.ErrResume)
		wantNoResume(t, f, plainToken(all, 4, 0), api.ErrGone)
		wantNoResume(t, f, plainToken(all, 10, 0), api.ErrFuture)
		wantTake(t, f, id+1, 1, events(6, in(v))...)
		wantLeave(t, f, id+1)
		id += 2
	}
	wantLen(t, f, 0)
}

// P15.7: two feeds know nothing of one another: neither of one Feeds, with one place and filter or with others, nor of two Feeds.
func TestTwoFeeds(t *testing.T) {
	s, f := example(t)
	g := feedsOf(t, s)
	wantFollow(t, f, 5, all, 1)
	wantFollow(t, f, 5, all, 2)
	wantFollow(t, f, 5, api.Filter{Rel: "viewer"}, 3)
	wantFollow(t, g, 5, all, 1)
	wantTake(t, f, 1, 1, events(6, in(o))...)
	wantToken(t, f, 2, all, 5, 0)
	wantToken(t, g, 1, all, 5, 0)
	wantTake(t, f, 3, 1, events(6, in(v))...)
	wantTake(t, f, 2, 2, events(6, in(o), in(v))...)
	wantToken(t, f, 1, all, 5, 1)
	wantToken(t, f, 3, api.Filter{Rel: "viewer"}, 6, 0)
	was := whole(g)
	wantLeave(t, f, 1)
	wantTake(t, f, 2, 1, events(7, touch(w))...)
	wantTake(t, f, 3, 9, events(7, touch(w))...)
	wantWhole(t, g, was)
	wantTake(t, g, 1, 1, events(6, in(o))...)
	wantLeave(t, g, 1)
	wantToken(t, f, 2, all, 7, 0)
	// The feed of a token stays where it is, when another one goes on from there.
	wantResume(t, f, wantToken(t, f, 2, all, 7, 0), 4)
	wantTake(t, f, 4, 1, events(9, out(o))...)
	wantToken(t, f, 2, all, 7, 0)
	wantTake(t, f, 2, 9, events(9, out(o), in(o2))...)
	wantToken(t, f, 4, all, 8, 1)
}
