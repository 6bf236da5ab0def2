package feed_test

import (
	"fmt"
	"runtime"
	"sync"
	"testing"

	"latchkey/api"
	"latchkey/feed"
	"latchkey/store"
)

const (
	listed = `doc:1#viewer@user:ann with c{at: 4, l: ["b", "a", ""]}`
	other  = `doc:2#viewer@user:ann with c{at: 5, l: ["x"]}`
)

// scrawl writes all over a tuple's lists and the room behind them.
func scrawl(x api.Tuple) {
	for i := range x.Args[:cap(x.Args)] {
		a := &x.Args[:cap(x.Args)][i]
		l := a.Value.Texts[:cap(a.Value.Texts)]
		for k := range l {
			l[k] = "scrawl"
		}
		*a = api.Arg{Name: "scrawl"}
	}
}

func scrawlEvents(l []api.Event) {
	for i := range l[:cap(l)] {
		scrawl(l[:cap(l)][i].Change.Tuple)
		l[:cap(l)][i] = api.Event{Rev: 9, Change: api.Change{Kind: 9, Tuple: fact("scrawl:s#s@s:s")}}
	}
}

func scrawlChanges(l []api.Change) {
	for i := range l[:cap(l)] {
		scrawl(l[:cap(l)][i].Tuple)
		l[:cap(l)][i] = api.Change{Kind: 9, Tuple: fact("scrawl:s#s@s:s")}
	}
}

// wholeStore tells all that a store answers of what it keeps.
func wholeStore(s *store.Store) string {
	b := fmt.Sprintln(s.Oldest(), s.Newest())
	for rev := s.Oldest(); rev <= s.Newest(); rev++ {
		snap, _ := s.Snap(rev)
		c, e := s.Commit(rev)
		b += fmt.Sprintln(rev, c.Kind, e) + wholeChanges(c.Changes) + wholeSnap(snap)
	}
	return b
}

// lister is a store with tuples that have lists.
func lister(t *testing.T) *store.Store {
	t.Helper()
	s := newStore(t, wideText, roomy(), 0)
	write(t, s, in(listed), in(other), in(o))
	write(t, s, touch(`doc:1#viewer@user:ann with c{at: 5, l: ["q", "r"]}`), out(other), touch(`doc:3#viewer@user:ann with c{l: ["y"]}`))
	write(t, s, touch(listed))
	return s
}

// DOC.md, Memory: the events that are told are the caller's: what is written into them shows neither in the store, nor in what other feeds, or the same one, tell.
func TestEventsAreTheCallers(t *testing.T) {
	s := lister(t)
	f := feedsOf(t, s)
	wantFollow(t, f, 0, all, 1)
	wantFollow(t, f, 0, all, 2)
	wantFollow(t, f, 0, all, 3)
	was, feeds := wholeStore(s), whole(f)
	one, _ := f.Take(1, 5)
	two, _ := f.Take(2, 5)
	told := wholeEvents(two)
	scrawlEvents(one)
	if now := wholeEvents(two); now != told {
		t.Errorf("%s\nbut\n%s", told, now)
	}
	scrawlEvents(two)
	if now := wholeStore(s); now != was {
		t.Errorf("%s\nbut\n%s", was, now)
	}
	three, _ := f.Take(3, 5)
	if now := wholeEvents(three); now != told {
		t.Errorf("%s\nbut\n%s", told, now)
	}
	rest, _ := f.Take(1, 5)
	if len(rest) != 2 || wholeEvents(rest) != wholeEvents(append(events(2, touch(`doc:3#viewer@user:ann with c{l: ["y"]}`)), events(3, touch(listed))...)) {
		t.Errorf("%s", wholeEvents(rest))
	}
	if whole(f) == feeds {
		t.Error("the feeds haven't gone on")
	}
}

// DOC.md, Memory: no two lists of one answer have anything in common, the room behind them neither.
func TestListsOfOneAnswer(t *testing.T) {
	s := lister(t)
	f := feedsOf(t, s)
	wantFollow(t, f, 0, all, 1)
	l, _ := f.Take(1, 9)
	for i, x := range l {
		rest := wholeEvents(l[i+1:])
		for k := range x.Change.Tuple.Args {
			row := x.Change.Tuple.Args[k].Value.Texts
			behind := fmt.Sprint(x.Change.Tuple.Args[k+1:])
			_ = append(row, "behind", "behind", "behind")
			clear(row[:cap(row)])
			if now := fmt.Sprint(x.Change.Tuple.Args[k+1:]); now != behind {
				t.Errorf("%s but %s", behind, now)
			}
		}
		_ = append(x.Change.Tuple.Args, arg("behind", 1), arg("behind", 1))
		scrawl(x.Change.Tuple)
		if now := wholeEvents(l[i+1:]); now != rest {
			t.Errorf("%s\nbut\n%s", rest, now)
		}
	}
	c := diff(t, snapOf(t, s, 0), snapOf(t, s, 3))
	for i, x := range c {
		rest := wholeChanges(c[i+1:])
		_ = append(x.Tuple.Args, arg("behind", 1), arg("behind", 1))
		scrawl(x.Tuple)
		if now := wholeChanges(c[i+1:]); now != rest {
			t.Errorf("%s\nbut\n%s", rest, now)
		}
	}
}

// DOC.md, Memory: what Diff tells is the caller's: it shows neither in the snapshots, nor in the store, nor in another answer.
func TestChangesAreTheCallers(t *testing.T) {
	s := lister(t)
	a, b := snapOf(t, s, 1), snapOf(t, s, 2)
	was := wholeStore(s) + wholeSnap(a) + wholeSnap(b)
	one, two := diff(t, a, b), diff(t, a, b)
	told := wholeChanges(two)
	wantDiff(t, a, b, touch(`doc:1#viewer@user:ann with c{at: 5, l: ["q", "r"]}`), out("doc:2#viewer@user:ann"), in(`doc:3#viewer@user:ann with c{l: ["y"]}`))
	scrawlChanges(one)
	if now := wholeChanges(two); now != told {
		t.Errorf("%s\nbut\n%s", told, now)
	}
	scrawlChanges(two)
	if now := wholeStore(s) + wholeSnap(a) + wholeSnap(b); now != was {
		t.Errorf("%s\nbut\n%s", was, now)
	}
	if now := wholeChanges(diff(t, a, b)); now != told {
		t.Errorf("%s\nbut\n%s", told, now)
	}
	// Of a delete the key alone is told.
	for _, c := range diff(t, snapOf(t, s, 3), snapOf(t, s, 0)) {
		if c.Kind != api.ChangeDelete || c.Tuple.Cond != "" || len(c.Tuple.Args) != 0 {
			t.Errorf("%d %s", c.Kind, wholeTuple(c.Tuple))
		}
	}
}

// P15.5: what a token was made of may be written over behind the call: the feed stays.
func TestTextsOfTokens(t *testing.T) {
	_, f := example(t)
	row := []byte(plainToken(api.Filter{Rel: "owner"}, 5, 1))
	if id, e := f.Resume(string(row)); id != 1 || e != api.OK {
		t.Fatalf("%d, %d", id, e)
	}
	clear(row)
	wantToken(t, f, 1, api.Filter{Rel: "owner"}, 5, 1)
}

// P15.4, P15.5: what only asks changes nothing of the store.
func TestStoreStays(t *testing.T) {
	s, f := example(t)
	was := wholeStore(s)
	wantFollow(t, f, 5, all, 1)
	wantTake(t, f, 1, 1, events(6, in(o))...)
	wantResume(t, f, wantToken(t, f, 1, all, 5, 1), 2)
	wantTake(t, f, 2, 9, append(events(6, in(v)), append(events(7, touch(w)), events(9, out(o), in(o2))...)...)...)
	wantLeave(t, f, 1)
	wantNoFollow(t, f, 4, all, api.ErrGone)
	diff(t, snapOf(t, s, 6), snapOf(t, s, 9))
	if now := wholeStore(s); now != was {
		t.Errorf("%s\nbut\n%s", was, now)
	}
}

// DOC.md, Sameness: the same call answers the same, whatever else runs: each has Feeds of its own, over one store that is read.
func TestSideBySide(t *testing.T) {
	s := lister(t)
	of := func() string {
		f, _ := feed.New(s)
		b := ""
		for id := 1; id < 20; id++ {
			f.Follow(int64(id%4), api.Filter{Type: "doc"})
			l, _ := f.Take(id, 1+id%3)
			token, _ := f.Token(id)
			b += wholeEvents(l) + token
		}
		x, _ := s.Snap(1)
		y, _ := s.Snap(3)
		l, _ := feed.Diff(x, y)
		return b + wholeChanges(l) + whole(f)
	}
	want := of()
	var all sync.WaitGroup
	for range 8 {
		all.Go(func() {
			for range 20 {
				if of() != want {
					t.Error("an answer differs while others run")
				}
			}
		})
	}
	all.Wait()
}

// DOC.md, Sameness: the same calls make the same feeds.
func TestSameCalls(t *testing.T) {
	of := func() string {
		r := seeded(9)
		d := deskOf(t, diaryOf(t, wideText, api.Limits{Tuples: 20, Keep: 6}, 3))
		b := ""
		for range 200 {
			d.step(t, r)
			b += whole(d.feeds)
		}
		return b
	}
	if of() != of() {
		t.Error("two Feeds of the same calls answer otherwise")
	}
}

// DOC.md, Sameness: no call leaves a goroutine behind.
func TestNoGoroutines(t *testing.T) {
	was := runtime.NumGoroutine()
	s := lister(t)
	f := feedsOf(t, s)
	for id := 1; id <= 50; id++ {
		wantFollow(t, f, 0, all, id)
		f.Take(id, 1)
		diff(t, snapOf(t, s, 1), snapOf(t, s, 3))
	}
	if now := runtime.NumGoroutine(); now > was {
		t.Errorf("%d goroutines, where %d were", now, was)
	}
}
