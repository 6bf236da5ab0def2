package feed_test

import (
	"testing"

	"latchkey/api"
)

// Example 1.
func TestExampleTakes(t *testing.T) {
	_, f := example(t)
	wantFollow(t, f, 5, all, 1)
	wantTake(t, f, 1, 1, events(6, in(o))...)
	wantToken(t, f, 1, all, 5, 1)
	wantTake(t, f, 1, 1, events(6, in(v))...)
	wantToken(t, f, 1, all, 6, 0)
	wantTake(t, f, 1, 9, append(events(7, touch(w)), events(9, out(o), in(o2))...)...)
	wantToken(t, f, 1, all, 9, 0)
	wantTake(t, f, 1, 9)
	wantToken(t, f, 1, all, 9, 0)
}

// Example 2.
func TestExampleFollows(t *testing.T) {
	_, f := example(t)
	owner, cond := api.Filter{Rel: "owner"}, api.Filter{Cond: "c"}
	wantFollow(t, f, 6, owner, 1)
	wantTake(t, f, 1, 1, events(9, out(o))...)
	wantToken(t, f, 1, owner, 8, 1)
	wantFollow(t, f, 6, cond, 2)
	wantTake(t, f, 2, 9, events(7, touch(w))...)
	wantToken(t, f, 2, cond, 9, 0)
	other := api.Filter{Cond: "d"}
	wantFollow(t, f, 6, other, 3)
	wantTake(t, f, 3, 9)
	wantToken(t, f, 3, other, 9, 0)
	wantNoFollow(t, f, 4, all, api.ErrGone)
	wantNoFollow(t, f, 10, all, api.ErrFuture)
	wantFollow(t, f, 9, all, 4)
	wantTake(t, f, 4, 9)
}

// Example 3.
func TestExampleResumes(t *testing.T) {
	s, f := example(t)
	wantNoResume(t, f, plainToken(api.Filter{Rel: "viewer"}, 5, 1), api.ErrResume)
	for _, let := range []api.Filter{all, {Rel: "viewer"}} {
		wantNoResume(t, f, plainToken(let, 5, 2), api.ErrResume)
		wantNoResume(t, f, plainToken(let, 7, 1), api.ErrResume)
		wantNoResume(t, f, plainToken(let, 9, 1), api.ErrResume)
		wantNoResume(t, f, plainToken(let, 10, 0), api.ErrFuture)
	}
	wantResume(t, f, plainToken(all, 5, 1), 1)
	wantResume(t, f, plainToken(all, 6, 0), 2)
	trim(t, s, 7)
	wantNoTake(t, f, 1, 9, api.ErrGone)
	wantTake(t, f, 2, 9, append(events(7, touch(w)), events(9, out(o), in(o2))...)...)
}

// Example 4.
func TestExampleDiffs(t *testing.T) {
	s, _ := example(t)
	a, b := snapOf(t, s, 6), snapOf(t, s, 9)
	wantDiff(t, a, b, out(o), in(o2), touch(w))
	wantDiff(t, b, a, in(o), out(o2), touch(v))
	wantDiff(t, a, a)
	wantDiff(t, b, b)
}
