package feed_test

import (
	"fmt"
	"math"
	"math/rand"
	"strings"
	"testing"

	"latchkey/api"
	"latchkey/feed"
	"latchkey/schema"
	"latchkey/store"
	"latchkey/syntax"
	"latchkey/tuples"
)

// plainText is a schema in which the chapter's examples can stand.
const plainText = "type user type doc relation owner: [user] relation viewer: [user, user with c] cond c(at: int): at > 3"

// wideText has subjects of each kind, under conditions and without.
const wideText = `type user
type team
  relation member: [user, team#member, user:* with c, team:*]
type doc
  relation owner: [user]
  relation viewer: [user, user with c, user:*, team#member with d, user with d]
cond c(at: int, l: texts): at > 3
cond d(x: real): x > 0.5`

// The tuples of the chapter's examples.
const (
	o  = "doc:1#owner@user:ann"
	o2 = "doc:1#owner@user:bob"
	v  = "doc:1#viewer@user:ann"
	w  = "doc:1#viewer@user:ann with c"
)

// all lets everything through.
var all = api.Filter{}

// roomy are limits with room enough for most tests.
func roomy() api.Limits { return api.Limits{Tuples: 1000, Keep: 50} }

func model(text string) *schema.Model {
	s, spot := syntax.Parse(text)
	m, fault := schema.Of(s)
	if spot.Err != api.OK || fault.Err != api.OK {
		panic(text)
	}
	return m
}

func fact(s string) api.Tuple {
	x, e := tuples.Parse(s)
	if e != api.OK {
		panic(s)
	}
	return x
}

func in(s string) api.Change    { return api.Change{Kind: api.ChangeInsert, Tuple: fact(s)} }
func out(s string) api.Change   { return api.Change{Kind: api.ChangeDelete, Tuple: fact(s)} }
func touch(s string) api.Change { return api.Change{Kind: api.ChangeTouch, Tuple: fact(s)} }

// owners are touches of n tuples, from the number first on.
func owners(first, n int) []api.Change {
	var l []api.Change
	for i := range n {
		l = append(l, touch(fmt.Sprintf("doc:%d#owner@user:u%d", first+i, (first+i)%7)))
	}
	return l
}

func arg(name string, n int64) api.Arg {
	return api.Arg{Name: name, Value: api.Value{Kind: api.ValInt, Int: n}}
}

func newStore(t *testing.T, text string, lim api.Limits, start int64) *store.Store {
	t.Helper()
	s, e := store.New(model(text), lim, start)
	if e != api.OK {
		t.Fatal(e)
	}
	return s
}

func feedsOf(t *testing.T, s *store.Store) *feed.Feeds {
	t.Helper()
	f, e := feed.New(s)
	if f == nil || e != api.OK {
		t.Fatalf("New: %v, %d", f != nil, e)
	}
	return f
}

func write(t *testing.T, s *store.Store, l ...api.Change) {
	t.Helper()
	if _, e := s.Write(l, nil); e != api.OK {
		t.Fatalf("Write at %d: %d", s.Newest(), e)
	}
}

func change(t *testing.T, s *store.Store, text string) {
	t.Helper()
	if _, e := s.Change(model(text)); e != api.OK {
		t.Fatalf("Change at %d: %d", s.Newest(), e)
	}
}

func trim(t *testing.T, s *store.Store, oldest int64) {
	t.Helper()
	if e := s.Trim(oldest); e != api.OK {
		t.Fatalf("Trim(%d): %d", oldest, e)
	}
}

func snapOf(t *testing.T, s *store.Store, rev int64) *store.Snap {
	t.Helper()
	snap, e := s.Snap(rev)
	if e != api.OK {
		t.Fatalf("Snap(%d): %d", rev, e)
	}
	return snap
}

// example is the store of the chapter's examples, and its feeds.
func example(t *testing.T) (*store.Store, *feed.Feeds) {
	t.Helper()
	s := newStore(t, plainText, api.Limits{Tuples: 10, Keep: 10}, 5)
	f := feedsOf(t, s)
	write(t, s, in(o), in(v))
	write(t, s, touch(w))
	change(t, s, plainText)
	write(t, s, out(o), in(o2))
	return s, f
}

// wholeTuple tells a tuple, the bits of its reals too; nil and empty lists are the same.
func wholeTuple(x api.Tuple) string {
	var b strings.Builder
	fmt.Fprintf(&b, "%q %q %q %q", x.Object, x.Rel, x.Subject, x.Cond)
	for _, a := range x.Args {
		fmt.Fprintf(&b, " %q=%d/%v/%d/%x/%q/%q", a.Name, a.Value.Kind, a.Value.Bool, a.Value.Int, math.Float32bits(a.Value.Real), a.Value.Text, a.Value.Texts)
	}
	return b.String()
}

func wholeChanges(l []api.Change) string {
	var b strings.Builder
	for _, c := range l {
		fmt.Fprintln(&b, c.Kind, wholeTuple(c.Tuple))
	}
	return b.String()
}

func wholeEvents(l []api.Event) string {
	var b strings.Builder
	for _, x := range l {
		fmt.Fprint(&b, x.Rev, " ", wholeChanges([]api.Change{x.Change}))
	}
	return b.String()
}

func wholeSnap(s *store.Snap) string {
	var b strings.Builder
	for x := range s.All() {
		fmt.Fprintln(&b, wholeTuple(x))
	}
	return b.String()
}

// events are those of one revision.
func events(rev int64, l ...api.Change) []api.Event {
	var all []api.Event
	for _, c := range l {
		all = append(all, api.Event{Rev: rev, Change: c})
	}
	return all
}

// wantFollow asks for a new feed of that number, at that revision.
func wantFollow(t *testing.T, f *feed.Feeds, rev int64, let api.Filter, want int) {
	t.Helper()
	was := f.Len()
	if id, e := f.Follow(rev, let); id != want || e != api.OK {
		t.Fatalf("Follow(%d, %q): %d, %d, want %d", rev, let, id, e, want)
	}
	wantLen(t, f, was+1)
	wantToken(t, f, want, let, rev, 0)
}

// wantNoFollow asks for an error, with nothing beside it, and feeds that are as they were.
func wantNoFollow(t *testing.T, f *feed.Feeds, rev int64, let api.Filter, want api.Errno) {
	t.Helper()
	was := whole(f)
	if id, e := f.Follow(rev, let); id != 0 || e != want {
		t.Errorf("Follow(%d, %q): %d, %d, want %d", rev, let, id, e, want)
	}
	wantWhole(t, f, was)
}

// wantTake asks for just those events.
func wantTake(t *testing.T, f *feed.Feeds, id, most int, want ...api.Event) {
	t.Helper()
	if l, e := f.Take(id, most); wholeEvents(l) != wholeEvents(want) || e != api.OK {
		t.Errorf("Take(%d, %d): %d,\n%s\nwant\n%s", id, most, e, show(wholeEvents(l)), show(wholeEvents(want)))
	}
}

func wantNoTake(t *testing.T, f *feed.Feeds, id, most int, want api.Errno) {
	t.Helper()
	was := whole(f)
	if l, e := f.Take(id, most); len(l) != 0 || e != want {
		t.Errorf("Take(%d, %d): %d,\n%s\nwant %d", id, most, e, show(wholeEvents(l)), want)
	}
	wantWhole(t, f, was)
}

// wantToken asks where a feed stands, by its token, and for the token's every letter.
func wantToken(t *testing.T, f *feed.Feeds, id int, let api.Filter, rev int64, done int) string {
	t.Helper()
	want := plainToken(let, uint64(rev), uint64(done))
	token, e := f.Token(id)
	if token != want || e != api.OK {
		t.Errorf("Token(%d): %s, %d, want %s, that of %q at %d, %d", id, token, e, want, let, rev, done)
	}
	return token
}

func wantNoToken(t *testing.T, f *feed.Feeds, id int, want api.Errno) {
	t.Helper()
	if token, e := f.Token(id); token != "" || e != want {
		t.Errorf("Token(%d): %q, %d, want %d", id, token, e, want)
	}
}

// wantResume asks for a new feed of that number, whose token that is.
func wantResume(t *testing.T, f *feed.Feeds, token string, want int) {
	t.Helper()
	was := f.Len()
	if id, e := f.Resume(token); id != want || e != api.OK {
		t.Fatalf("Resume(%s): %d, %d, want %d", token, id, e, want)
	}
	wantLen(t, f, was+1)
	if own, e := f.Token(want); own != token || e != api.OK {
		t.Errorf("Token(%d): %s, %d, want %s", want, own, e, token)
	}
}

func wantNoResume(t *testing.T, f *feed.Feeds, token string, want api.Errno) {
	t.Helper()
	was := whole(f)
	if id, e := f.Resume(token); id != 0 || e != want {
		t.Errorf("Resume(%q): %d, %d, want %d", show(token), id, e, want)
	}
	wantWhole(t, f, was)
}

func wantLeave(t *testing.T, f *feed.Feeds, id int) {
	t.Helper()
	was := f.Len()
	if e := f.Leave(id); e != api.OK {
		t.Errorf("Leave(%d): %d", id, e)
	}
	wantLen(t, f, was-1)
	wantNone(t, f, id)
}

// wantNone asks for no feed of that number, of every call.
func wantNone(t *testing.T, f *feed.Feeds, id int) {
	t.Helper()
	was := whole(f)
	if e := f.Leave(id); e != api.ErrFeed {
		t.Errorf("Leave(%d): %d", id, e)
	}
	wantNoToken(t, f, id, api.ErrFeed)
	for _, most := range []int{math.MinInt, -1, 0, 1, 1000, 1001, math.MaxInt} {
		wantNoTake(t, f, id, most, api.ErrFeed)
	}
	wantWhole(t, f, was)
}

func wantLen(t *testing.T, f *feed.Feeds, want int) {
	t.Helper()
	if got := f.Len(); got != want {
		t.Errorf("Len: %d, want %d", got, want)
	}
}

// whole tells all that feeds answer of themselves: how many there are, and the token of each.
func whole(f *feed.Feeds) string {
	s := fmt.Sprintln(f.Len())
	for id := range 400 {
		if token, e := f.Token(id); e == api.OK {
			s += fmt.Sprintln(id, token)
		}
	}
	return s
}

func wantWhole(t *testing.T, f *feed.Feeds, was string) {
	t.Helper()
	if now := whole(f); now != was {
		t.Errorf("the feeds aren't as they were:\n%s\nbut\n%s", was, now)
	}
}

func diff(t *testing.T, a, b *store.Snap) []api.Change {
	t.Helper()
	l, e := feed.Diff(a, b)
	if e != api.OK {
		t.Fatalf("Diff: %d", e)
	}
	return l
}

// wantDiff asks for just those changes, and for those that the chapter's words say.
func wantDiff(t *testing.T, a, b *store.Snap, want ...api.Change) {
	t.Helper()
	l := diff(t, a, b)
	if wholeChanges(l) != wholeChanges(want) {
		t.Errorf("Diff:\n%s\nwant\n%s", show(wholeChanges(l)), show(wholeChanges(want)))
	}
	wantPlainDiff(t, a, b)
}

// show tells a text, no longer than one can read.
func show(s string) string {
	if len(s) > 2000 {
		return fmt.Sprint(s[:2000], "..", len(s))
	}
	return s
}

func seeded(n int64) *rand.Rand { return rand.New(rand.NewSource(n)) }
