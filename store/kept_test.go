package store_test

import (
	"math"
	"testing"

	"latchkey/api"
)

// P12.4: behind each revision that is made the oldest stays, as long as no more than Keep are kept; then it is one more.
func TestKeep(t *testing.T) {
	m := model(t, plainText)
	for _, keep := range []int{1, 2, 3, 7} {
		s := made(t, plainText, api.Limits{Tuples: 100, Keep: keep}, 10)
		for n := int64(11); n < 40; n++ {
			if n%3 == 0 {
				wantChange(t, s, m, n)
			} else {
				wantWrite(t, s, n, in(owners(int(n), 1)[0]))
			}
			oldest := max(10, n-int64(keep)+1)
			wantKept(t, s, oldest, n)
			wantNoSnap(t, s, oldest-1, api.ErrGone)
			wantNoSnap(t, s, n+1, api.ErrFuture)
			for rev := oldest; rev <= n; rev++ {
				snapOf(t, s, rev)
			}
		}
	}
}

// P12.4, Limits: as many revisions as a store may keep at all, and one more.
func TestMostKept(t *testing.T) {
	s := made(t, plainText, api.Limits{Tuples: 1, Keep: api.MaxKeep}, 0)
	for n := int64(1); n < 1024; n++ {
		wantWrite(t, s, n)
	}
	wantKept(t, s, 0, 1023)
	wantAt(t, s, 0)
	wantWrite(t, s, 1024, in(o))
	wantKept(t, s, 1, 1024)
	wantNoSnap(t, s, 0, api.ErrGone)
	wantCommit(t, s, 1)
	wantCommit(t, s, 1024, in(o))
	if e := s.Trim(1000); e != api.OK {
		t.Error(e)
	}
	wantKept(t, s, 1000, 1024)
	// There is room for a thousand more behind it.
	for n := int64(1025); n < 2024; n++ {
		wantWrite(t, s, n)
	}
	wantKept(t, s, 1000, 2023)
	wantWrite(t, s, 2024)
	wantKept(t, s, 1001, 2024)
	wantCommit(t, s, 1024, in(o))
}

// P12.4: Trim at the oldest, at the newest, in between, one below and one above, and far off.
func TestTrim(t *testing.T) {
	for oldest := int64(5); oldest <= 9; oldest++ {
		s := made(t, plainText, api.Limits{Tuples: 100, Keep: 20}, 5)
		for n := int64(6); n <= 9; n++ {
			wantWrite(t, s, n, in(owners(int(n), 1)[0]))
		}
		was := whole(s)
		for _, no := range []int64{4, 10, -1, 0, math.MinInt64, math.MaxInt64, api.MaxRev} {
			if e := s.Trim(no); e != api.ErrArg {
				t.Errorf("Trim(%d): %d", no, e)
			}
		}
		wantWhole(t, s, was)
		if e := s.Trim(oldest); e != api.OK {
			t.Errorf("Trim(%d): %d", oldest, e)
		}
		wantKept(t, s, oldest, 9)
		if e := s.Trim(oldest - 1); e != api.ErrArg {
			t.Errorf("Trim(%d) behind Trim(%d): %d", oldest-1, oldest, e)
		}
		if e := s.Trim(oldest); e != api.OK {
			t.Errorf("Trim(%d) again: %d", oldest, e)
		}
		for rev := int64(4); rev < oldest; rev++ {
			wantNoSnap(t, s, rev, api.ErrGone)
			wantNoCommit(t, s, rev, api.ErrGone)
			wantNoRead(t, s, rev, 1, api.ErrGone)
		}
		for rev := max(oldest, 6); rev <= 9; rev++ {
			wantAt(t, s, rev, owners(6, int(rev)-5)...)
			wantCommit(t, s, rev, in(owners(int(rev), 1)[0]))
		}
		wantWrite(t, s, 10)
		wantKept(t, s, oldest, 10)
	}
}

// P12.4: with Keep 1 just the newest revision is kept, and Trim has nothing to do.
func TestKeepOne(t *testing.T) {
	s := made(t, plainText, api.Limits{Tuples: 3, Keep: 1}, 0)
	wantWrite(t, s, 1, in(o))
	wantWrite(t, s, 2, in(v))
	wantKept(t, s, 2, 2)
	wantNoSnap(t, s, 1, api.ErrGone)
	wantNoCommit(t, s, 1, api.ErrGone)
	wantCommit(t, s, 2, in(v))
	wantAt(t, s, 2, o, v)
	for rev, want := range map[int64]api.Errno{1: api.ErrArg, 2: api.OK, 3: api.ErrArg} {
		if e := s.Trim(rev); e != want {
			t.Errorf("Trim(%d): %d", rev, e)
		}
	}
	wantKept(t, s, 2, 2)
}

// P12.4: Trim at the end and at the start.
func TestTrimAlone(t *testing.T) {
	for _, start := range []int64{0, 3, api.MaxRev} {
		s := made(t, plainText, api.Limits{Tuples: 3, Keep: 2}, start)
		was := whole(s)
		if e := s.Trim(start); e != api.OK {
			t.Error(e)
		}
		if e := s.Trim(start - 1); e != api.ErrArg {
			t.Error(e)
		}
		if e := s.Trim(start + 1); e != api.ErrArg {
			t.Error(e)
		}
		wantWhole(t, s, was)
	}
}

// P12.5: Snap and Commit of what is gone, to come and far off; the start has no commit, kept or not.
func TestSnapAndCommit(t *testing.T) {
	s := made(t, plainText, api.Limits{Tuples: 10, Keep: 3}, 4)
	wantNoCommit(t, s, 4, api.ErrGone)
	wantWrite(t, s, 5, in(o))
	wantNoCommit(t, s, 4, api.ErrGone)
	wantAt(t, s, 4)
	wantCommit(t, s, 5, in(o))
	wantChange(t, s, model(t, "type last "+plainText), 6)
	wantNoCommit(t, s, 4, api.ErrGone)
	wantWrite(t, s, 7, out(o), in(v))
	for _, rev := range []int64{math.MinInt64, -1, 0, 3, 4} {
		wantNoSnap(t, s, rev, api.ErrGone)
		wantNoCommit(t, s, rev, api.ErrGone)
		wantNoRead(t, s, rev, 1, api.ErrGone)
	}
	for _, rev := range []int64{8, 9, api.MaxRev, math.MaxInt64} {
		wantNoSnap(t, s, rev, api.ErrFuture)
		wantNoCommit(t, s, rev, api.ErrFuture)
		wantNoRead(t, s, rev, 1, api.ErrFuture)
	}
	wantCommit(t, s, 5, in(o))
	wantCommit(t, s, 7, out(o), in(v))
	if c, e := s.Commit(6); e != api.OK || c.Rev != 6 || c.Kind != api.CommitSchema || schemaText(c.Schema) != schemaText(model(t, "type last "+plainText).Schema()) || len(c.Changes) != 0 {
		t.Errorf("Commit(6): %+v, %d", c, e)
	}
	wantAt(t, s, 6, o)
	wantAt(t, s, 7, v)
}
