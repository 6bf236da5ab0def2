package store_test

import (
	"fmt"
	"testing"

	"latchkey/api"
)

// P12.2, Limits: a store with as many tuples as there may be at all, written by the greatest writes; one more is too much, in the place of another one it isn't.
func TestMostTuples(t *testing.T) {
	s := made(t, plainText, api.Limits{Tuples: api.MaxTuples, Keep: 3}, 0)
	of := func(i int) api.Tuple {
		// Not in their order, so that they come in everywhere.
		n := i * 40503 % 65536
		return api.Tuple{Object: object("doc", fmt.Sprintf("%05d", n/8)), Rel: "owner", Subject: subject("user", fmt.Sprint(n%8), "")}
	}
	for i := 0; i < 65536; i += 256 {
		l := make([]api.Change, 256)
		for k := range l {
			l[k] = api.Change{Kind: api.ChangeInsert, Tuple: of(i + k)}
		}
		if rev, e := s.Write(l, nil); rev != int64(i/256+1) || e != api.OK {
			t.Fatalf("%d: %d, %d", i, rev, e)
		}
	}
	snap := snapOf(t, s, 256)
	if snap.Len() != 65536 {
		t.Fatalf("%d tuples", snap.Len())
	}
	more := in("doc:x#owner@user:x")
	for _, l := range [][]api.Change{{more}, {touch("doc:x#owner@user:x")}, {more, in("doc:y#owner@user:x"), {Kind: api.ChangeDelete, Tuple: of(7)}}} {
		if rev, e := s.Write(l, nil); rev != 0 || e != api.ErrFull {
			t.Errorf("%d, %d", rev, e)
		}
	}
	wantKept(t, s, 254, 256)
	wantWrite(t, s, 257, more, api.Change{Kind: api.ChangeDelete, Tuple: of(7)})
	n, by, last := 0, 0, api.Tuple{}
	for {
		l, isMore, e := s.Read(256, api.Filter{}, last, 1000)
		if e != api.OK {
			t.Fatal(e)
		}
		n += len(l)
		if !isMore {
			break
		}
		last = l[len(l)-1]
	}
	for range snap.By(subject("user", "3", "")) {
		by++
	}
	if n != 65536 || by != 8192 {
		t.Errorf("%d, %d", n, by)
	}
	wantTuples(t, "Of", snap.Of(object("doc", "04711"), "owner"), "doc:04711#owner@user:0", "doc:04711#owner@user:1", "doc:04711#owner@user:2", "doc:04711#owner@user:3", "doc:04711#owner@user:4", "doc:04711#owner@user:5", "doc:04711#owner@user:6", "doc:04711#owner@user:7")
	wantChange(t, s, model(t, "type user type doc relation owner: [user]"), 258)
	if rev, e := s.Change(model(t, "type user type doc relation owner: [user:*]")); rev != 0 || e != api.ErrBreaks {
		t.Errorf("%d, %d", rev, e)
	}
}

// Any argument: long texts and great lists end in an answer.
func TestLongArguments(t *testing.T) {
	s := roomy(t, plainText, o)
	long := string(make([]byte, 1<<20))
	x := fact(v)
	x.Args = make([]api.Arg, 100000)
	wantRefused(t, s, api.ErrArgs, []api.Change{{Kind: api.ChangeInsert, Tuple: x}})
	wantRefused(t, s, api.ErrAbsent, []api.Change{{Kind: api.ChangeDelete, Tuple: x}})
	x.Object.Id = long
	wantRefused(t, s, api.ErrId, []api.Change{{Kind: api.ChangeDelete, Tuple: x}})
	x.Object.Type = long
	wantRefused(t, s, api.ErrType, []api.Change{{Kind: api.ChangeTouch, Tuple: x}})
	wantRefused(t, s, api.ErrPre, nil, must(api.Filter{Type: long, Id: long}))
	wantRead(t, s, 1, api.Filter{}, x, 5, false, o)
	snap := snapOf(t, s, 1)
	wantTuples(t, "Of", snap.Of(x.Object, long))
	wantTuples(t, "By", snap.By(subject(long, long, long)))
	if y, ok := snap.Find(x); ok {
		t.Error(y)
	}
}
