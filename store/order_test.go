package store_test

import (
	"testing"

	"latchkey/api"
	"latchkey/store"
)

// wrong is a change, or a premise, that is refused by itself with that error.
type wrong struct {
	want api.Errno
	c    api.Change
}

// wrongs are changes that are refused for what they are, in the order of the chapter's table.
func wrongs() []wrong {
	no := fact("doc:1#owner@user:ann")
	no.Object.Id = "*"
	args := fact("doc:5#viewer@user:ann with c")
	args.Args = make([]api.Arg, 17)
	return []wrong{
		{api.ErrArg, api.Change{Kind: 4, Tuple: fact("file:1#owner@user:ann")}},
		{api.ErrType, in("file:1#owner@user:ann")},
		{api.ErrId, api.Change{Kind: api.ChangeDelete, Tuple: no}},
		{api.ErrRelation, touch("doc:1#reader@user:ann")},
		{api.ErrSubject, out("doc:1#owner@bot:1")},
		{api.ErrAllowed, in("doc:1#owner@user:*")},
		{api.ErrAllowed, out("doc:1#owner@user:*")},
		{api.ErrArgs, api.Change{Kind: api.ChangeTouch, Tuple: args}},
		{api.ErrParam, in("doc:1#viewer@user:ann with c{by: 1}")},
		{api.ErrKind, touch("doc:1#viewer@user:ann with c{at: 1.0}")},
	}
}

// full is a store with two tuples, o and w, and no room.
func full(t *testing.T) *store.Store {
	t.Helper()
	s := made(t, plainText, api.Limits{Tuples: 2, Keep: 5}, 0)
	wantWrite(t, s, 1, in(o), in(w))
	return s
}

// P12.2: of one change, the first reason: its Kind, then its tuple's, then that its key stands ahead of it.
func TestOrderWithinAChange(t *testing.T) {
	s := full(t)
	for _, x := range wrongs() {
		wantRefused(t, s, x.want, []api.Change{x.c})
		// No kind goes ahead of all that is wrong with the tuple.
		c := x.c
		c.Kind = 0
		wantRefused(t, s, api.ErrArg, []api.Change{c})
		// What is wrong with a tuple goes ahead of its key being there twice: only the first one is right.
		twice := api.Change{Kind: api.ChangeDelete, Tuple: x.c.Tuple}
		if lookedAt(model(t, plainText), twice) == api.OK {
			c = x.c
			c.Kind = api.ChangeInsert
			wantRefused(t, s, lookedAt(model(t, plainText), c), []api.Change{twice, c})
		}
	}
	// No kind goes ahead of the key being there twice.
	wantRefused(t, s, api.ErrArg, []api.Change{out(o), {Kind: 9, Tuple: fact(o)}})
	// Twice goes ahead of there and absent.
	wantRefused(t, s, api.ErrTwice, []api.Change{in(o), in(o)})
	wantRefused(t, s, api.ErrTwice, []api.Change{out("doc:7#owner@user:ann"), out("doc:7#owner@user:ann")})
}

// P12.2: of two changes, the first one's reason, whatever the second one's; but reasons that hang on the tuples that are there come behind all of these.
func TestOrderOfTwoChanges(t *testing.T) {
	s := full(t)
	l := wrongs()
	for _, a := range l {
		for _, b := range l {
			wantRefused(t, s, a.want, []api.Change{a.c, b.c})
			wantRefused(t, s, a.want, []api.Change{touch("doc:9#owner@user:x"), a.c, b.c})
		}
		wantRefused(t, s, a.want, []api.Change{in(o), a.c})
		wantRefused(t, s, a.want, []api.Change{out("doc:7#owner@user:ann"), a.c})
		wantRefused(t, s, a.want, []api.Change{a.c, in(o)})
		wantRefused(t, s, a.want, []api.Change{in("doc:7#owner@user:ann"), a.c})
		// A key that is there twice, ahead of it and behind it.
		wantRefused(t, s, api.ErrTwice, []api.Change{in("doc:7#owner@user:ann"), in("doc:7#owner@user:ann"), a.c})
		wantRefused(t, s, a.want, []api.Change{in("doc:7#owner@user:ann"), a.c, in("doc:7#owner@user:ann")})
	}
	wantRefused(t, s, api.ErrTwice, []api.Change{in(o), out("doc:7#owner@user:ann"), touch("doc:8#owner@user:ann"), touch("doc:8#owner@user:ann")})
	// There and absent by the order of the changes, and both ahead of full.
	wantRefused(t, s, api.ErrThere, []api.Change{in(o), out("doc:7#owner@user:ann")})
	wantRefused(t, s, api.ErrAbsent, []api.Change{out("doc:7#owner@user:ann"), in(o)})
	wantRefused(t, s, api.ErrThere, []api.Change{in("doc:7#owner@user:ann"), in(o)})
	wantRefused(t, s, api.ErrAbsent, []api.Change{in("doc:7#owner@user:ann"), out("doc:8#owner@user:ann")})
	wantRefused(t, s, api.ErrFull, []api.Change{in("doc:7#owner@user:ann")})
}

// P12.2: premises come behind what is wrong with the changes themselves, and ahead of what hangs on the tuples that are there.
func TestOrderOfChangesAndPremises(t *testing.T) {
	s := full(t)
	no, yes := must(api.Filter{Rel: "reader"}), must(api.Filter{Rel: "owner"})
	for _, x := range wrongs() {
		wantRefused(t, s, x.want, []api.Change{x.c}, no)
		wantRefused(t, s, x.want, []api.Change{x.c}, yes)
	}
	wantRefused(t, s, api.ErrTwice, []api.Change{in(o), in(o)}, no)
	for _, l := range [][]api.Change{{in(o)}, {out("doc:7#owner@user:ann")}, {in("doc:7#owner@user:ann")}, {touch(o)}, nil} {
		wantRefused(t, s, api.ErrPre, l, no)
		wantRefused(t, s, api.ErrPre, l, yes, no)
		wantRefused(t, s, api.ErrPre, l, mustNot(api.Filter{}))
	}
	wantRefused(t, s, api.ErrThere, []api.Change{in(o)}, yes)
	wantRefused(t, s, api.ErrAbsent, []api.Change{out("doc:7#owner@user:ann")}, yes)
	wantRefused(t, s, api.ErrFull, []api.Change{in("doc:7#owner@user:ann")}, yes)
}

// P12.2: too many go ahead of the end, and both ahead of all else.
func TestOrderOfTheFirst(t *testing.T) {
	end := made(t, plainText, api.Limits{Tuples: 2, Keep: 5}, api.MaxRev-1)
	wantWrite(t, end, api.MaxRev, in(o))
	s := full(t)
	no := must(api.Filter{Rel: "reader"})
	for _, x := range append(wrongs(), wrong{c: in(o)}, wrong{c: out("doc:7#owner@user:ann")}) {
		long := make([]api.Change, 257)
		long[0] = x.c
		pres := make([]api.Pre, 17)
		pres[0] = no
		for _, st := range []*store.Store{s, end} {
			wantRefused(t, st, api.ErrLong, long)
			wantRefused(t, st, api.ErrLong, []api.Change{x.c}, pres...)
			wantRefused(t, st, api.ErrLong, long, no)
		}
		wantRefused(t, end, api.ErrEnd, []api.Change{x.c})
		wantRefused(t, end, api.ErrEnd, []api.Change{x.c, x.c}, no)
	}
}

// P12.5, P12.6: of a revision that is above the newest, or below the oldest, that is told ahead of a size that may not be.
func TestOrderOfReads(t *testing.T) {
	s := full(t)
	wantWrite(t, s, 2)
	s.Trim(1)
	for _, size := range []int{-1, 0, 1, 1000, 1001} {
		wantNoRead(t, s, 3, size, api.ErrFuture)
		wantNoRead(t, s, 0, size, api.ErrGone)
	}
	for _, size := range []int{-1, 0, 1001} {
		wantNoRead(t, s, 1, size, api.ErrArg)
		wantNoRead(t, s, 2, size, api.ErrArg)
	}
}
