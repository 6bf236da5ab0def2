package feed_test

import (
	"math/rand"
	"testing"

	"latchkey/api"
	"latchkey/feed"
)

// reader takes of a feed, now and then, all that comes, and holds it against what was written.
type reader struct {
	let   api.Filter
	from  int64
	id    int
	heard []api.Event
}

// hear takes at most so many events.
func (x *reader) hear(t *testing.T, f *feed.Feeds, most int) int {
	t.Helper()
	l, e := f.Take(x.id, most)
	if e != api.OK || len(l) > most {
		t.Fatalf("Take(%d, %d): %d events, %d", x.id, most, len(l), e)
	}
	x.heard = append(x.heard, l...)
	return len(l)
}

// renew leaves the feed and takes it up again by its token, or takes it up ahead of leaving it; perhaps at other Feeds of the store.
func (x *reader) renew(t *testing.T, r *rand.Rand, f, g *feed.Feeds) *feed.Feeds {
	t.Helper()
	token, e := f.Token(x.id)
	if e != api.OK {
		t.Fatal(e)
	}
	was := x.id
	if r.Intn(2) == 0 {
		if e := f.Leave(was); e != api.OK {
			t.Fatal(e)
		}
		was = 0
	}
	x.id, e = g.Resume(token)
	if e != api.OK {
		t.Fatalf("Resume: %d", e)
	}
	if was != 0 {
		if e := f.Leave(was); e != api.OK {
			t.Fatal(e)
		}
	}
	return g
}

// finish takes the rest, and asks for each event once, in order.
func (x *reader) finish(t *testing.T, d *diary, f *feed.Feeds, most int) {
	t.Helper()
	for x.hear(t, f, most) == most {
	}
	if was, now := wholeEvents(d.eventsSince(x.let, spot{rev: x.from})), wholeEvents(x.heard); was != now {
		t.Errorf("%q from %d: %s\nwant\n%s", x.let, x.from, show(now), show(was))
	}
	if n := x.hear(t, f, most); n != 0 {
		t.Errorf("%d events more", n)
	}
}

// writeAny writes something to the store, or changes its schema.
func (d *diary) writeAny(r *rand.Rand) {
	if r.Intn(5) == 0 {
		d.change([]string{wideText, "type more " + wideText}[r.Intn(2)])
		return
	}
	d.write(randomChanges(r)...)
}

// P15.7, P10: whatever was taken each time, and whatever was written between, each event of the revisions behind the first place is told once, in order; and likewise where a feed is left at any time and taken up again by its token.
func TestEachOnce(t *testing.T) {
	r := seeded(3)
	heard := 0
	for range 200 {
		d := diaryOf(t, wideText, api.Limits{Tuples: 60, Keep: 200}, r.Int63n(200))
		for range r.Intn(20) {
			d.writeAny(r)
		}
		f, g := feedsOf(t, d.store), feedsOf(t, d.store)
		at := f
		x := &reader{let: randomFilter(r), from: d.start + r.Int63n(d.newest()-d.start+1)}
		x.id, _ = f.Follow(x.from, x.let)
		for range r.Intn(120) {
			switch r.Intn(4) {
			case 0, 1:
				x.hear(t, at, 1+r.Intn(4))
			case 2:
				d.writeAny(r)
			default:
				at = x.renew(t, r, at, []*feed.Feeds{f, g}[r.Intn(2)])
			}
		}
		x.finish(t, d, at, 1+r.Intn(5))
		heard += len(x.heard)
	}
	if heard < 1500 {
		t.Errorf("only %d events", heard)
	}
}

// P15.7: what is trimmed behind the feed's place doesn't matter to it.
func TestEachOnceBehindTrim(t *testing.T) {
	r := seeded(4)
	for range 60 {
		d := diaryOf(t, wideText, api.Limits{Tuples: 60, Keep: 100}, 7)
		f := feedsOf(t, d.store)
		x := &reader{let: randomFilter(r), from: 7, id: 1}
		wantFollow(t, f, 7, x.let, 1)
		for range 40 {
			d.writeAny(r)
			if r.Intn(3) == 0 {
				x.hear(t, f, 1000)
				d.trim(d.newest())
			}
		}
		x.finish(t, d, f, 2)
	}
}

// P15.7: many feeds at once over one store: each is told its own, whatever the others take.
func TestManyAtOnce(t *testing.T) {
	r := seeded(6)
	d := diaryOf(t, wideText, api.Limits{Tuples: 60, Keep: 400}, 0)
	f := feedsOf(t, d.store)
	var l []*reader
	for i := range 64 {
		d.writeAny(r)
		x := &reader{let: randomFilter(r), from: r.Int63n(d.newest() + 1), id: i + 1}
		wantFollow(t, f, x.from, x.let, i+1)
		l = append(l, x)
		for range 3 {
			l[r.Intn(len(l))].hear(t, f, 1+r.Intn(6))
		}
	}
	for _, x := range l {
		x.finish(t, d, f, 1+r.Intn(9))
	}
}

// P15.7: what a feed tells, written to another store that stands where it began, makes the same tuples, and as many revisions as there are in it.
func TestEventsMake(t *testing.T) {
	r := seeded(7)
	d := diaryOf(t, wideText, api.Limits{Tuples: 60, Keep: 100}, 0)
	other := newStore(t, wideText, roomy(), 0)
	f := feedsOf(t, d.store)
	wantFollow(t, f, 0, all, 1)
	for range 50 {
		d.write(randomChanges(r)...)
		l, e := f.Take(1, 3)
		if e != api.OK {
			t.Fatal(e)
		}
		for _, x := range l {
			write(t, other, x.Change)
		}
	}
	for l, _ := f.Take(1, 3); len(l) > 0; l, _ = f.Take(1, 3) {
		for _, x := range l {
			write(t, other, x.Change)
		}
	}
	wantDiff(t, snapOf(t, d.store, d.newest()), snapOf(t, other, other.Newest()))
}
