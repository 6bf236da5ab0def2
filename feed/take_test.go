package feed_test

import (
	"math"
	"testing"

	"latchkey/api"
	"latchkey/feed"
	"latchkey/store"
)

// sixer is a store that starts at 0 and has six commits of all kinds, with feeds: of 1 three changes, of 2 none, of 3 a schema, of 4 one, of 5 two, of 6 a schema.
func sixer(t *testing.T) (*store.Store, *feed.Feeds) {
	t.Helper()
	s := newStore(t, wideText, roomy(), 0)
	write(t, s, in(o), in("team:x#member@user:ann"), touch("doc:1#viewer@user:ann with c{at: 4}"))
	write(t, s)
	change(t, s, "type more "+wideText)
	write(t, s, touch("doc:1#viewer@user:ann with d{x: 1.5}"))
	write(t, s, out("doc:1#viewer@user:ann with c{at: 4}"), in(o2))
	change(t, s, wideText)
	return s, feedsOf(t, s)
}

// sixers are its events.
func sixers() []api.Event {
	l := events(1, in(o), in("team:x#member@user:ann"), touch("doc:1#viewer@user:ann with c{at: 4}"))
	l = append(l, events(4, touch("doc:1#viewer@user:ann with d{x: 1.5}"))...)
	return append(l, events(5, out(v), in(o2))...)
}

// P15.4: the first most events, and the place behind: within a commit, at a commit's end, at the newest revision.
func TestTakePlaces(t *testing.T) {
	places := []spot{{0, 0}, {0, 1}, {0, 2}, {1, 0}, {4, 0}, {4, 1}, {5, 0}}
	l := sixers()
	for from := range places {
		for most := 1; most < 9; most++ {
			s, f := sixer(t)
			wantResume(t, f, plainToken(all, uint64(places[from].rev), uint64(places[from].done)), 1)
			end := min(from+most, len(l))
			wantTake(t, f, 1, most, l[from:end]...)
			at := spot{6, 0}
			if from+most <= len(l) {
				at = places[end]
			}
			wantToken(t, f, 1, all, at.rev, at.done)
			wantTake(t, f, 1, 1000, l[end:]...)
			wantToken(t, f, 1, all, 6, 0)
			wantTake(t, f, 1, 1)
			write(t, s, in("doc:9#owner@user:ann"))
			wantTake(t, f, 1, 1, events(7, in("doc:9#owner@user:ann"))...)
			wantToken(t, f, 1, all, 7, 0)
		}
	}
}

// P15.4: just as many events as there are leave the feed right behind the last one; only where there are fewer it has gone past what comes behind.
func TestTakeJustAsMany(t *testing.T) {
	_, f := sixer(t)
	wantFollow(t, f, 0, all, 1)
	wantTake(t, f, 1, 6, sixers()...)
	wantToken(t, f, 1, all, 5, 0)
	wantTake(t, f, 1, 1)
	wantToken(t, f, 1, all, 6, 0)
	wantFollow(t, f, 0, all, 2)
	wantTake(t, f, 2, 7, sixers()...)
	wantToken(t, f, 2, all, 6, 0)
	team := api.Filter{Type: "team"}
	wantFollow(t, f, 0, team, 3)
	wantTake(t, f, 3, 1, events(1, in("team:x#member@user:ann"))...)
	wantToken(t, f, 3, team, 0, 2)
	wantTake(t, f, 3, 1)
	wantToken(t, f, 3, team, 6, 0)
	wantFollow(t, f, 0, team, 4)
	wantTake(t, f, 4, 2, events(1, in("team:x#member@user:ann"))...)
	wantToken(t, f, 4, team, 6, 0)
}

// P15.4: filters that let through all, some and nothing, by each field; of a delete the key alone is looked at.
func TestTakeFilters(t *testing.T) {
	l := sixers()
	for _, c := range []struct {
		let  api.Filter
		want []int
	}{
		{all, []int{0, 1, 2, 3, 4, 5}},
		{api.Filter{Type: "doc"}, []int{0, 2, 3, 4, 5}},
		{api.Filter{Type: "team"}, []int{1}},
		{api.Filter{Type: "user"}, nil},
		{api.Filter{Id: "1"}, []int{0, 2, 3, 4, 5}},
		{api.Filter{Id: "x"}, []int{1}},
		{api.Filter{Rel: "owner"}, []int{0, 5}},
		{api.Filter{Rel: "viewer"}, []int{2, 3, 4}},
		{api.Filter{Rel: "any"}, nil},
		{api.Filter{Subject: api.Subject{Type: "user"}}, []int{0, 1, 2, 3, 4, 5}},
		{api.Filter{Subject: api.Subject{Type: "team"}}, nil},
		{api.Filter{Subject: api.Subject{Id: "bob"}}, []int{5}},
		{api.Filter{Subject: api.Subject{Rel: "member"}}, nil},
		{api.Filter{Cond: "c"}, []int{2}},
		{api.Filter{Cond: "d"}, []int{3}},
		{api.Filter{Cond: "e"}, nil},
		{api.Filter{Rel: "viewer", Cond: "c"}, []int{2}},
		{api.Filter{Rel: "owner", Cond: "c"}, nil},
		{api.Filter{Type: "doc", Id: "1", Rel: "owner", Subject: api.Subject{Type: "user", Id: "ann"}}, []int{0}},
	} {
		_, f := sixer(t)
		var want []api.Event
		for _, i := range c.want {
			want = append(want, l[i])
		}
		wantFollow(t, f, 0, c.let, 1)
		wantTake(t, f, 1, 9, want...)
		wantToken(t, f, 1, c.let, 6, 0)
		wantFollow(t, f, 0, c.let, 2)
		for i := range want {
			wantTake(t, f, 2, 1, want[i])
		}
		wantTake(t, f, 2, 1)
		wantToken(t, f, 2, c.let, 6, 0)
	}
}

// P15.4: a delete that was asked with a Cond and Args is told by its key alone, and no filter with a Cond lets it through.
func TestTakeDeletes(t *testing.T) {
	s := newStore(t, wideText, roomy(), 0)
	f := feedsOf(t, s)
	write(t, s, in("doc:1#viewer@user:ann with c{at: 4}"))
	for id, let := range []api.Filter{all, {Cond: "c"}, {Rel: "viewer"}, {Rel: "viewer", Cond: "c"}} {
		wantFollow(t, f, 1, let, id+1)
	}
	write(t, s, out("doc:1#viewer@user:ann with c{at: 4}"), touch("doc:2#viewer@user:ann with c"))
	kept := touch("doc:2#viewer@user:ann with c")
	wantTake(t, f, 1, 9, events(2, out(v), kept)...)
	wantTake(t, f, 2, 9, events(2, kept)...)
	wantTake(t, f, 3, 9, events(2, out(v), kept)...)
	wantTake(t, f, 4, 9, events(2, kept)...)
	l, _ := s.Commit(2)
	if x := l.Changes[0].Tuple; x.Cond != "" || len(x.Args) != 0 {
		t.Errorf("%s", wholeTuple(x))
	}
}

// P15.4: over commits without changes and of schemas, first, last and one behind the other.
func TestTakeOverSchemas(t *testing.T) {
	s := newStore(t, plainText, roomy(), 0)
	f := feedsOf(t, s)
	wantFollow(t, f, 0, all, 1)
	change(t, s, plainText)
	wantTake(t, f, 1, 1)
	wantToken(t, f, 1, all, 1, 0)
	change(t, s, plainText)
	write(t, s)
	change(t, s, plainText)
	write(t, s, in(o), in(v))
	write(t, s)
	change(t, s, plainText)
	write(t, s, out(o))
	wantTake(t, f, 1, 1, events(5, in(o))...)
	wantToken(t, f, 1, all, 4, 1)
	wantTake(t, f, 1, 2, append(events(5, in(v)), events(8, out(o))...)...)
	wantToken(t, f, 1, all, 8, 0)
	change(t, s, plainText)
	wantTake(t, f, 1, 1)
	wantToken(t, f, 1, all, 9, 0)
}

// P15.4: most from 1 to 1000.
func TestTakeMost(t *testing.T) {
	s := newStore(t, plainText, api.Limits{Tuples: 1200, Keep: 10}, 0)
	f := feedsOf(t, s)
	wantFollow(t, f, 0, all, 1)
	var l []api.Event
	for i := range 5 {
		row := owners(256*i, 256)
		if i == 4 {
			row = owners(0, 178)
		}
		write(t, s, row...)
		l = append(l, events(int64(i+1), row...)...)
	}
	for _, most := range []int{math.MinInt, -1, 0, 1001, 1002, math.MaxInt} {
		wantNoTake(t, f, 1, most, api.ErrArg)
	}
	wantTake(t, f, 1, 1, l[0])
	wantTake(t, f, 1, 1000, l[1:1001]...)
	wantToken(t, f, 1, all, 3, 233)
	wantTake(t, f, 1, 999, l[1001:]...)
	wantToken(t, f, 1, all, 5, 0)
	wantFollow(t, f, 0, all, 2)
	wantTake(t, f, 2, 999, l[:999]...)
	wantTake(t, f, 2, 203, l[999:]...)
	wantToken(t, f, 2, all, 5, 0)
	wantNoTake(t, f, 2, 0, api.ErrArg)
	wantNoTake(t, f, 2, 1001, api.ErrArg)
}

// The chapter's errors, where two hold at once: of Take.
func TestTakeOrder(t *testing.T) {
	s, f := example(t)
	wantFollow(t, f, 5, all, 1)
	trim(t, s, 9)
	for _, most := range []int{math.MinInt, 0, 1001} {
		wantNoTake(t, f, 1, most, api.ErrArg)
		wantNoTake(t, f, 2, most, api.ErrFeed)
	}
	wantNoTake(t, f, 2, 1, api.ErrFeed)
	wantNoTake(t, f, 1, 1, api.ErrGone)
	wantNoTake(t, f, 1, 1000, api.ErrGone)
}

// P15.4: a place that is gone behind Trim: the feed stays as it is, its token too, and can be left; one at the place ahead of the oldest goes on.
func TestGoneBehindTrim(t *testing.T) {
	s, f := example(t)
	wantFollow(t, f, 5, all, 1)
	wantTake(t, f, 1, 1, events(6, in(o))...)
	wantFollow(t, f, 6, all, 2)
	wantFollow(t, f, 8, api.Filter{Rel: "owner"}, 3)
	wantTake(t, f, 3, 1, events(9, out(o))...)
	wantFollow(t, f, 9, all, 4)
	trim(t, s, 6)
	wantTake(t, f, 2, 1, events(7, touch(w))...)
	wantFollow(t, f, 6, all, 5)
	trim(t, s, 7)
	for range 2 {
		wantNoTake(t, f, 1, 1, api.ErrGone)
		wantNoTake(t, f, 1, 1000, api.ErrGone)
		wantToken(t, f, 1, all, 5, 1)
	}
	wantNoResume(t, f, wantToken(t, f, 1, all, 5, 1), api.ErrGone)
	trim(t, s, 8)
	wantNoTake(t, f, 5, 1, api.ErrGone)
	wantToken(t, f, 5, all, 6, 0)
	wantTake(t, f, 2, 1, events(9, out(o))...)
	trim(t, s, 9)
	// Of 9 the commit is told still, so who stands within it goes on.
	wantTake(t, f, 3, 9, events(9, in(o2))...)
	wantTake(t, f, 2, 9, events(9, in(o2))...)
	wantTake(t, f, 4, 9)
	wantLen(t, f, 5)
	wantLeave(t, f, 1)
	wantLeave(t, f, 5)
}

// P15.4: a place that is gone, as the store keeps so many revisions alone.
func TestGoneByKeep(t *testing.T) {
	s := newStore(t, plainText, api.Limits{Tuples: 10, Keep: 2}, 5)
	f := feedsOf(t, s)
	wantFollow(t, f, 5, all, 1)
	write(t, s, in(o), in(v))
	wantTake(t, f, 1, 1, events(6, in(o))...)
	wantFollow(t, f, 5, all, 2)
	write(t, s, touch(w))
	wantFollow(t, f, 7, all, 3)
	wantResume(t, f, wantToken(t, f, 1, all, 5, 1), 4)
	wantTake(t, f, 4, 9, append(events(6, in(v)), events(7, touch(w))...)...)
	// Revisions 7 and 8 are kept from here on, and what made 6 is gone.
	write(t, s)
	wantNoTake(t, f, 1, 1, api.ErrGone)
	wantNoTake(t, f, 2, 9, api.ErrGone)
	wantNoResume(t, f, wantToken(t, f, 1, all, 5, 1), api.ErrGone)
	wantNoResume(t, f, wantToken(t, f, 2, all, 5, 0), api.ErrGone)
	change(t, s, plainText)
	write(t, s, touch(v))
	// 9 and 10 are kept.
	wantNoTake(t, f, 3, 1, api.ErrGone)
	wantNoTake(t, f, 4, 1, api.ErrGone)
	wantToken(t, f, 3, all, 7, 0)
	wantFollow(t, f, 8, all, 5)
	wantTake(t, f, 5, 9, events(10, touch(v))...)
	wantLen(t, f, 5)
	s = newStore(t, plainText, api.Limits{Tuples: 10, Keep: 1}, 0)
	f = feedsOf(t, s)
	wantFollow(t, f, 0, all, 1)
	wantFollow(t, f, 0, all, 2)
	write(t, s, in(o))
	wantTake(t, f, 1, 9, events(1, in(o))...)
	write(t, s, in(v))
	wantTake(t, f, 1, 9, events(2, in(v))...)
	wantNoTake(t, f, 2, 9, api.ErrGone)
}
