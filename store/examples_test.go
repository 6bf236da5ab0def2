package store_test

import (
	"testing"

	"latchkey/api"
)

// Example 1.
func TestExampleRevisions(t *testing.T) {
	s := made(t, plainText, api.Limits{Tuples: 10, Keep: 2}, 5)
	wantKept(t, s, 5, 5)
	wantNoCommit(t, s, 5, api.ErrGone)
	wantNoSnap(t, s, 4, api.ErrGone)
	wantNoSnap(t, s, 6, api.ErrFuture)
	ahead := snapOf(t, s, 5)
	wantWrite(t, s, 6, in(o), in(w))
	wantCommit(t, s, 6, in(o), in(w))
	wantWrite(t, s, 7, touch(v))
	wantKept(t, s, 6, 7)
	if x, ok := snapOf(t, s, 6).Find(fact(w)); !ok || textOf(x) != w {
		t.Errorf("at 6: %s, %v", textOf(x), ok)
	}
	if x, ok := snapOf(t, s, 7).Find(fact(w)); !ok || textOf(x) != v {
		t.Errorf("at 7: %s, %v", textOf(x), ok)
	}
	wantNoSnap(t, s, 5, api.ErrGone)
	if ahead.Len() != 0 {
		t.Errorf("the snapshot of 5 has %d tuples", ahead.Len())
	}
}

// Example 2.
func TestExampleRefusals(t *testing.T) {
	s := roomy(t, plainText, o, w)
	wantRefused(t, s, api.ErrThere, []api.Change{in(o)})
	wantRefused(t, s, api.ErrAbsent, []api.Change{out("doc:1#owner@user:bob")})
	wantRefused(t, s, api.ErrTwice, []api.Change{out(o), in(o)})
	wantRefused(t, s, api.ErrAllowed, []api.Change{out("doc:1#owner@user:*")})
	wantRefused(t, s, api.ErrArg, []api.Change{{Tuple: fact(o)}, in("file:1#owner@user:ann")})
	empty := made(t, plainText, api.Limits{Tuples: 10, Keep: 2}, 0)
	wantRefused(t, empty, api.ErrPre, []api.Change{in(o)}, must(api.Filter{Rel: "owner"}))
	wantRefused(t, s, api.ErrPre, []api.Change{in(o)}, must(api.Filter{Rel: "reader"}))
	odd := out("doc:1#viewer@user:ann with zzz{at: \"x\", by: 1.5}")
	wantWrite(t, s, 2, odd)
	wantCommit(t, s, 2, out(v))
	wantAt(t, s, 2, o)
}

// Example 3.
func TestExampleFull(t *testing.T) {
	s := made(t, plainText, api.Limits{Tuples: 1, Keep: 1}, 0)
	wantRefused(t, s, api.ErrFull, ins(o, v))
	wantWrite(t, s, 1, in(o))
	wantWrite(t, s, 2, in(v), out(o))
	wantAt(t, s, 2, v)
	wantWrite(t, s, 3)
	wantAt(t, s, 3, v)
	wantKept(t, s, 3, 3)
}

// Example 4.
func TestExampleModels(t *testing.T) {
	s := roomy(t, plainText, w)
	wantNoChange(t, s, model(t, "type user type doc relation owner: [user] relation viewer: [user:*] cond c(at: int): at > 3"), api.ErrBreaks)
	end := made(t, plainText, api.Limits{Tuples: 1, Keep: 1}, api.MaxRev)
	wantRefused(t, end, api.ErrEnd, nil)
	wantNoChange(t, end, model(t, plainText), api.ErrEnd)
}

// Example 5.
func TestExampleRead(t *testing.T) {
	s := made(t, plainText, api.Limits{Tuples: 10, Keep: 2}, 5)
	wantWrite(t, s, 6, in(w), in(o))
	wantRead(t, s, 6, api.Filter{Rel: "viewer"}, api.Tuple{}, 1, false, w)
	wantRead(t, s, 6, api.Filter{}, api.Tuple{}, 1, true, o)
	wantRead(t, s, 6, api.Filter{}, fact(o), 1, false, w)
	wantRead(t, s, 6, api.Filter{}, fact(w), 1, false)
	wantNoRead(t, s, 6, 0, api.ErrArg)
	wantNoRead(t, s, 6, 1001, api.ErrArg)
}

// Example 6.
func TestExampleTrim(t *testing.T) {
	s := made(t, plainText, api.Limits{Tuples: 10, Keep: 2}, 5)
	wantWrite(t, s, 6, in(o), in(w))
	wantWrite(t, s, 7, touch(v))
	for _, oldest := range []int64{4, 8} {
		if e := s.Trim(oldest); e != api.ErrArg {
			t.Errorf("Trim(%d): %d", oldest, e)
		}
	}
	if e := s.Trim(7); e != api.OK {
		t.Errorf("Trim(7): %d", e)
	}
	wantKept(t, s, 7, 7)
	wantCommit(t, s, 7, touch(v))
	wantNoCommit(t, s, 6, api.ErrGone)
}
