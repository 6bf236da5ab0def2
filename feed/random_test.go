package feed_test

import (
	"fmt"
	"math/rand"
	"testing"

	"latchkey/api"
	"latchkey/feed"
)

func randomTuple(r *rand.Rand) api.Tuple {
	n := func(k int) int { return r.Intn(k) }
	switch n(8) {
	case 0:
		return fact(fmt.Sprintf("doc:%d#viewer@user:u%d with c{at: %d, l: [\"%d\"]}", n(3), n(3), n(3), n(2)))
	case 1:
		return fact(fmt.Sprintf("doc:%d#viewer@user:u%d with d{x: %s}", n(3), n(3), []string{"0.5", "-0.0", "nan", "inf"}[n(4)]))
	case 2:
		return fact(fmt.Sprintf("doc:%d#viewer@user:*", n(3)))
	case 3:
		return fact(fmt.Sprintf("team:%d#member@team:%d#member", n(3), n(3)))
	case 4:
		return fact(fmt.Sprintf("team:%d#member@user:u%d", n(3), n(3)))
	case 5:
		return fact(fmt.Sprintf("doc:%d#viewer@user:u%d", n(3), n(3)))
	}
	return fact(fmt.Sprintf("doc:%d#owner@user:u%d", n(3), n(3)))
}

// randomChanges are mostly such as a store takes.
func randomChanges(r *rand.Rand) []api.Change {
	var l []api.Change
	for range r.Intn(5) {
		kind := api.ChangeTouch
		if r.Intn(4) == 0 {
			kind = 1 + r.Intn(2)
		}
		l = append(l, api.Change{Kind: kind, Tuple: randomTuple(r)})
	}
	return l
}

func randomFilter(r *rand.Rand) api.Filter {
	l := []api.Filter{
		all, all, {Type: "doc"}, {Type: "doc", Id: "1"}, {Id: "2"}, {Rel: "owner"}, {Rel: "viewer"}, {Rel: "member"}, {Cond: "c"}, {Cond: "d"}, {Type: "user"}, {Id: "no id"},
		{Subject: api.Subject{Type: "user"}}, {Subject: api.Subject{Id: "*"}}, {Subject: api.Subject{Rel: "member"}}, {Subject: api.Subject{Id: "u1"}}, {Rel: "viewer", Subject: api.Subject{Type: "user", Id: "u0"}},
	}
	return l[r.Intn(len(l))]
}

// follower is what a feed must be.
type follower struct {
	let api.Filter
	at  spot
}

func (x follower) token() string { return plainToken(x.let, uint64(x.at.rev), uint64(x.at.done)) }

// desk are feeds and what they must be, over a store and what was written to it.
type desk struct {
	*diary
	feeds *feed.Feeds
	there map[int]follower
	last  int
	told  map[string]int // how often each answer was met
}

func deskOf(t *testing.T, d *diary) *desk {
	return &desk{diary: d, feeds: feedsOf(t, d.store), there: map[int]follower{}, told: map[string]int{}}
}

// begun is what the chapter says of a feed that is to begin there.
func (d *desk) begun(x follower) (int, api.Errno) {
	switch {
	case x.at.rev > d.newest():
		return 0, api.ErrFuture
	case !d.isKept(x.at.rev):
		return 0, api.ErrGone
	case x.at.done > 0 && !d.canStand(x):
		return 0, api.ErrResume
	case len(d.there) == 64:
		return 0, api.ErrFull
	}
	d.last++
	d.there[d.last] = x
	return d.last, api.OK
}

// canStand says whether a feed with that filter comes to its place by Takes of one, from the revision on.
func (d *desk) canStand(x follower) bool {
	for _, y := range d.since(x.let, spot{rev: x.at.rev}) {
		if y.at == x.at {
			return true
		}
	}
	return false
}

func (d *desk) follow(t *testing.T, rev int64, let api.Filter) {
	t.Helper()
	want, e := d.begun(follower{let, spot{rev: rev}})
	if id, f := d.feeds.Follow(rev, let); id != want || f != e {
		t.Errorf("Follow(%d, %q): %d, %d, want %d, %d", rev, let, id, f, want, e)
	}
	d.told[fmt.Sprint("Follow ", e)]++
}

func (d *desk) resume(t *testing.T, x follower) {
	t.Helper()
	want, e := d.begun(x)
	if id, f := d.feeds.Resume(x.token()); id != want || f != e {
		t.Errorf("Resume(%s), %q at %v: %d, %d, want %d, %d", x.token(), x.let, x.at, id, f, want, e)
	}
	d.told[fmt.Sprint("Resume ", e)]++
}

// taken is what the chapter says of a Take.
func (d *desk) taken(id, most int) ([]api.Event, api.Errno) {
	x, isThere := d.there[id]
	switch {
	case !isThere:
		return nil, api.ErrFeed
	case most < 1 || most > 1000:
		return nil, api.ErrArg
	case !d.isKept(x.at.rev):
		return nil, api.ErrGone
	}
	l := d.since(x.let, x.at)
	x.at = spot{rev: d.newest()}
	if len(l) >= most {
		l = l[:most]
		x.at = l[most-1].at
	}
	d.there[id] = x
	var told []api.Event
	for _, y := range l {
		told = append(told, y.event)
	}
	return told, api.OK
}

func (d *desk) take(t *testing.T, id, most int) {
	t.Helper()
	want, e := d.taken(id, most)
	if l, f := d.feeds.Take(id, most); wholeEvents(l) != wholeEvents(want) || f != e {
		t.Errorf("Take(%d, %d): %d,\n%s\nwant %d,\n%s", id, most, f, wholeEvents(l), e, wholeEvents(want))
	}
	d.told[fmt.Sprint("Take ", e, " ", min(len(want), 2))]++
}

func (d *desk) leave(t *testing.T, id int) {
	t.Helper()
	want := api.ErrFeed
	if _, isThere := d.there[id]; isThere {
		want = api.OK
	}
	delete(d.there, id)
	if e := d.feeds.Leave(id); e != want {
		t.Errorf("Leave(%d): %d, want %d", id, e, want)
	}
	d.told[fmt.Sprint("Leave ", want)]++
}

// look asks how many feeds there are, and where each stands.
func (d *desk) look(t *testing.T) {
	t.Helper()
	wantLen(t, d.feeds, len(d.there))
	for id := range d.last + 2 {
		token, e := d.feeds.Token(id)
		x, isThere := d.there[id]
		if !isThere && (token != "" || e != api.ErrFeed) || isThere && (token != x.token() || e != api.OK) {
			t.Errorf("Token(%d): %q, %d, of %v, %v", id, token, e, x, isThere)
		}
	}
}

// step does something at random.
func (d *desk) step(t *testing.T, r *rand.Rand) {
	t.Helper()
	id := r.Intn(d.last + 2)
	near := d.newest() - int64(r.Intn(6)) + 1
	switch r.Intn(12) {
	case 0, 1, 2:
		d.write(randomChanges(r)...)
	case 3:
		d.change([]string{wideText, "type more " + wideText}[r.Intn(2)])
	case 4:
		d.trim(d.newest() - int64(r.Intn(5)))
	case 5:
		d.follow(t, near, randomFilter(r))
	case 6:
		d.resume(t, follower{randomFilter(r), spot{max(near, 0), r.Intn(4)}})
	case 7:
		if x, isThere := d.there[id]; isThere {
			d.resume(t, x)
		}
	case 8:
		d.leave(t, id)
	default:
		d.take(t, id, []int{1, 1, 1, 2, 3, 5, 1000, 0, 1001}[r.Intn(9)])
	}
}

// P15.2 to P15.7: feeds that are followed, taken of, left and taken up again at random, while the store is written to and trimmed, are what the chapter's words say.
func TestRandomFeeds(t *testing.T) {
	r := seeded(1)
	all := map[string]int{}
	for range 300 {
		d := deskOf(t, diaryOf(t, wideText, api.Limits{Tuples: 4 + r.Intn(30), Keep: 1 + r.Intn(6)}, r.Int63n(3)*100))
		for range 80 {
			d.step(t, r)
			d.look(t)
		}
		for k, n := range d.told {
			all[k] += n
		}
	}
	for _, k := range []string{
		"Follow 0", "Follow 124", "Follow 125", "Resume 0", "Resume 124", "Resume 125", "Resume 151",
		"Take 0 0", "Take 0 1", "Take 0 2", "Take 150 0", "Take 2 0", "Take 124 0", "Leave 0", "Leave 150",
	} {
		if all[k] < 50 {
			t.Errorf("%s was met %d times", k, all[k])
		}
	}
}

// Two Feeds over one store, and many feeds in each: full and left again at random.
func TestRandomFull(t *testing.T) {
	r := seeded(2)
	x := diaryOf(t, wideText, api.Limits{Tuples: 40, Keep: 20}, 0)
	l := []*desk{deskOf(t, x), deskOf(t, x)}
	for range 1500 {
		d := l[r.Intn(2)]
		if r.Intn(3) > 0 {
			d.follow(t, d.newest()-int64(r.Intn(4)), randomFilter(r))
		} else {
			d.step(t, r)
		}
		d.look(t)
	}
	if l[0].told["Follow 122"] < 50 || l[1].told["Follow 122"] < 50 || l[0].told["Resume 122"] < 1 {
		t.Errorf("%v, %v", l[0].told, l[1].told)
	}
}
