package journal_test

import (
	"testing"

	"latchkey/api"
	"latchkey/journal"
)

// Example 1.
func TestExampleRecords(t *testing.T) {
	wantRecord(t, written(5), summed("\x6c\x03\x05\x01\x00"))
	const body = "\x05\x01\x01\x02\x0d\x01\x64\x01\x31\x01\x72\x01\x75\x01\x61\x00\x00\x00"
	if len(body) != 18 {
		t.Errorf("%d bytes", len(body))
	}
	wantRecord(t, written(5, out("d:1#r@u:a")), summed("\x6c\x12"+body))
}

// Example 2.
func TestExampleNoRecords(t *testing.T) {
	wantNoRecord(t, api.Commit{Rev: -1}, api.ErrArg)
	wantNoRecord(t, api.Commit{Rev: 1, Kind: 0}, api.ErrArg)
	wantNoRecord(t, written(1, api.Change{Kind: 0, Tuple: fact("d:1#r@u:a")}), api.ErrArg)
	wantNoRecord(t, written(1, make([]api.Change, 257)...), api.ErrLong)
	x := fact("d:1#r@u:a")
	x.Object.Id = ""
	wantNoRecord(t, written(1, api.Change{Kind: api.ChangeInsert, Tuple: x}), api.ErrTuple)
}

// Example 3.
func TestExampleCrashes(t *testing.T) {
	lim := api.Limits{Tuples: 10, Keep: 3}
	begin := func() (*journal.Book, int) {
		b := made(t, "type user type doc relation owner: [user]", lim, 7)
		wantNewest(t, b, 7)
		wantWrite(t, b, 8, in("doc:1#owner@user:ann"))
		wantWrite(t, b, 9, touch("doc:1#owner@user:ann"))
		wantSync(t, b)
		wantWrite(t, b, 10)
		all, safe := b.Bytes()
		return b, len(all) - safe
	}
	_, loose := begin()
	for _, c := range []struct {
		keep int
		torn byte
		want int64
	}{{0, 0, 9}, {loose, 0, 10}, {loose, 1, 9}, {loose - 1, 0, 9}, {loose - 1, 1, 9}, {loose - 1, 255, 9}} {
		b, _ := begin()
		left, e := b.Crash(c.keep, c.torn)
		if e != api.OK {
			t.Fatal(e)
		}
		wantNewest(t, opened(t, string(left), lim), c.want)
		wantDead(t, b)
	}
}

// Example 4.
func TestExampleOpen(t *testing.T) {
	for _, b := range []string{"", "\x6c", record(t, written(1))} {
		wantNoOpen(t, b, roomy(), api.ErrRecord)
	}
	b := made(t, smallText, api.Limits{Tuples: 5, Keep: 5}, 0)
	wantWrite(t, b, 1, in("doc:1#owner@user:ann"))
	first := bytesOf(b)
	wantWrite(t, b, 2, in("doc:2#owner@user:ann"))
	wantWrite(t, b, 3)
	o := opened(t, bytesOf(b), api.Limits{Tuples: 1, Keep: 5})
	wantNewest(t, o, 1)
	wantSafe(t, o, first)
}

// Example 5.
func TestExampleNew(t *testing.T) {
	for text, want := range map[string]api.Errno{"type": api.ErrSyntax, "type a type a": api.ErrTwice} {
		if b, e := journal.New(text, roomy(), 0); b != nil || e != want {
			t.Errorf("New(%s): %v, %d", text, b != nil, e)
		}
	}
	if b, e := journal.New(smallText, api.Limits{Tuples: 10}, 0); b != nil || e != api.ErrArg {
		t.Errorf("%v, %d", b != nil, e)
	}
}

// Example 10 of the whole: what was made safe is there behind the crash.
func TestExampleOfTheWhole(t *testing.T) {
	const text = `type user
type team
  relation member: [user, team#member]
type doc
  relation parent: [doc]
  relation owner: [user]
  relation blocked: [user]
  relation viewer: ([user, user:*, team#member, user with hours] or owner or viewer from parent) not blocked
cond hours(now: int): now >= 9 and now < 17
`
	lim := api.Limits{Tuples: 100, Keep: 10}
	var facts []api.Change
	for _, s := range []string{"team:a#member@user:ann", "team:b#member@team:a#member", "team:a#member@team:b#member", "doc:1#viewer@team:b#member", "doc:2#parent@doc:1", "doc:2#blocked@user:ann", "doc:3#parent@doc:2", "doc:4#viewer@user:*", "doc:5#viewer@user:bob with hours"} {
		facts = append(facts, in(s))
	}
	for keep, want := range map[int]int64{0: 1, 1 << 20: 2} {
		b := made(t, text, lim, 0)
		wantWrite(t, b, 1, facts...)
		wantSync(t, b)
		wantWrite(t, b, 2, out("doc:4#viewer@user:*"))
		left, _ := b.Crash(keep, 0)
		o := opened(t, string(left), lim)
		wantNewest(t, o, want)
		snap, _ := o.Store().Snap(want)
		if _, there := snap.Find(fact("doc:4#viewer@user:*")); there != (want == 1) {
			t.Errorf("at %d: %v", want, there)
		}
	}
}
