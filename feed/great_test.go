package feed_test

import (
	"fmt"
	"testing"

	"latchkey/api"
)

// As many revisions as a store can keep: page by page each change is told once, and each page has a thousand events, but for the last one.
func TestGreatFeed(t *testing.T) {
	const revs, each = 1024, 64
	s := newStore(t, plainText, api.Limits{Tuples: 1000, Keep: api.MaxKeep}, 0)
	for i := range revs {
		write(t, s, owners(i%5*each, each)...)
	}
	f := feedsOf(t, s)
	wantFollow(t, f, 0, all, 1)
	wantFollow(t, f, 0, api.Filter{Cond: "none"}, 2)
	n := 0
	for range revs * each / 1000 {
		l, e := f.Take(1, 1000)
		if e != api.OK || len(l) != 1000 {
			t.Fatalf("%d events, %d", len(l), e)
		}
		for _, x := range l {
			if x.Rev != int64(n/each+1) || x.Change.Tuple.Object.Id != fmt.Sprint(n/each%5*each+n%each) {
				t.Fatalf("%d: %d %s", n, x.Rev, wholeTuple(x.Change.Tuple))
			}
			n++
		}
	}
	l, e := f.Take(1, 1000)
	if e != api.OK || n+len(l) != revs*each {
		t.Errorf("%d, %d events, %d", n, len(l), e)
	}
	wantTake(t, f, 2, 1000)
	wantToken(t, f, 2, api.Filter{Cond: "none"}, revs, 0)
	write(t, s)
	wantNoFollow(t, f, 0, all, api.ErrGone)
	wantFollow(t, f, 1, all, 3)
}

// One commit of as many changes as there may be, told one by one and by tokens alone.
func TestGreatCommit(t *testing.T) {
	s := newStore(t, plainText, roomy(), 0)
	f := feedsOf(t, s)
	l := owners(0, api.MaxBatch)
	write(t, s, l...)
	token := plainToken(all, 0, 0)
	for i, c := range l {
		wantResume(t, f, token, i+1)
		wantTake(t, f, i+1, 1, events(1, c)...)
		at := spot{0, i + 1}
		if i+1 == len(l) {
			at = spot{1, 0}
		}
		token = wantToken(t, f, i+1, all, at.rev, at.done)
		wantLeave(t, f, i+1)
	}
	wantNoResume(t, f, plainToken(all, 0, api.MaxBatch), api.ErrResume)
	wantNoResume(t, f, plainToken(all, 0, api.MaxBatch+1), api.ErrResume)
}

// Snapshots of as many tuples as a store may have: one without another's, and one with other tuples of the same keys.
func TestGreatDiff(t *testing.T) {
	const most = api.MaxTuples
	s := newStore(t, plainText, api.Limits{Tuples: most, Keep: 4}, 0)
	none := snapOf(t, s, 0)
	for i := 0; i < most; i += api.MaxBatch {
		write(t, s, owners(i, api.MaxBatch)...)
	}
	full := snapOf(t, s, s.Newest())
	write(t, s, out("doc:0#owner@user:u0"), touch("doc:5#owner@user:u5"))
	less := snapOf(t, s, s.Newest())
	if l := diff(t, none, full); len(l) != most || l[0].Kind != api.ChangeInsert || l[most-1].Kind != api.ChangeInsert {
		t.Errorf("%d changes", len(l))
	}
	if l := diff(t, full, none); len(l) != most || l[0].Kind != api.ChangeDelete || l[most-1].Kind != api.ChangeDelete {
		t.Errorf("%d changes", len(l))
	}
	wantDiff(t, full, less, out("doc:0#owner@user:u0"))
	wantDiff(t, less, full, in("doc:0#owner@user:u0"))
	wantDiff(t, full, full)
}

// A token of a filter with long texts.
func TestGreatToken(t *testing.T) {
	s := newStore(t, plainText, roomy(), 0)
	f := feedsOf(t, s)
	row := make([]byte, 1<<20)
	for i := range row {
		row[i] = byte(i * i)
	}
	let := api.Filter{Type: string(row), Rel: string(row[:70000]), Subject: api.Subject{Id: string(row[1:])}}
	wantFollow(t, f, 0, let, 1)
	wantResume(t, f, wantToken(t, f, 1, let, 0, 0), 2)
	wantTake(t, f, 2, 1)
	token, _ := f.Token(1)
	wantNoResume(t, f, token[:len(token)-1], api.ErrResume)
	wantNoResume(t, f, token[1:], api.ErrResume)
}
