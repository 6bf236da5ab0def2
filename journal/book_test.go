package journal_test

import (
	"strings"
	"testing"

	"latchkey/api"
	"latchkey/journal"
)

// P14.5, P14.6: each write and each change puts the record of its commit behind the others, loose; Sync makes all safe.
func TestBook(t *testing.T) {
	b := made(t, wideText, roomy(), 7)
	all := record(t, changed(7, wideText))
	safe := len(all)
	put := func(c api.Commit) {
		t.Helper()
		all += plainRecord(c)
		wantBytes(t, b, all, safe)
	}
	wantBytes(t, b, all, safe)
	wantWrite(t, b, 8, in("doc:1#owner@user:ann"), touch(`doc:1#viewer@user:ann with c{at: 4, l: ["b", "a"]}`))
	put(written(8, in("doc:1#owner@user:ann"), touch(`doc:1#viewer@user:ann with c{at: 4, l: ["b", "a"]}`)))
	wantWrite(t, b, 9)
	put(written(9))
	wantChange(t, b, 10, "type more "+wideText)
	put(changed(10, "type more "+wideText))
	wantSync(t, b)
	safe = len(all)
	wantSafe(t, b, all)
	wantSync(t, b)
	wantSafe(t, b, all)
	// Of a delete the key alone is written, whatever its Cond and Args.
	odd := out("doc:1#viewer@user:ann with zzz{at: \"x\"}")
	odd.Tuple.Cond = "No Name"
	wantWrite(t, b, 11, odd, touch("doc:1#owner@user:ann"))
	put(written(11, out("doc:1#viewer@user:ann"), touch("doc:1#owner@user:ann")))
	wantChange(t, b, 12, wideText)
	put(changed(12, wideText))
	for range 3 {
		wantBytes(t, b, all, safe)
	}
	wantSync(t, b)
	wantSafe(t, b, all)
	l, n := journal.Scan([]byte(all))
	if len(l) != 6 || n != len(all) {
		t.Errorf("%d commits, %d bytes of %d", len(l), n, len(all))
	}
}

// P14.6: the error of the store's Write, and a book that is as it was.
func TestWriteRefusals(t *testing.T) {
	b := made(t, smallText, api.Limits{Tuples: 2, Keep: 5}, 0)
	wantWrite(t, b, 1, in("doc:1#owner@user:ann"))
	wantSync(t, b)
	wantWrite(t, b, 2, touch("doc:1#owner@user:ann"))
	must := api.Pre{Must: true, Filter: api.Filter{Id: "2"}}
	fresh := []api.Change{in("doc:2#owner@user:ann")}
	wantRefused(t, b, api.ErrLong, make([]api.Change, 257))
	wantRefused(t, b, api.ErrLong, nil, make([]api.Pre, 17)...)
	wantRefused(t, b, api.ErrArg, []api.Change{{Tuple: fact("doc:2#owner@user:ann")}})
	wantRefused(t, b, api.ErrArg, []api.Change{{Kind: 4, Tuple: fact("doc:2#owner@user:ann")}, in("file:1#owner@user:ann")})
	wantRefused(t, b, api.ErrType, []api.Change{in("file:1#owner@user:ann")})
	wantRefused(t, b, api.ErrId, []api.Change{{Kind: api.ChangeInsert, Tuple: api.Tuple{Object: api.Object{Type: "doc"}}}})
	wantRefused(t, b, api.ErrRelation, []api.Change{touch("doc:1#reader@user:ann")})
	wantRefused(t, b, api.ErrSubject, []api.Change{in("doc:1#owner@bot:ann")})
	wantRefused(t, b, api.ErrAllowed, []api.Change{out("doc:1#owner@user:*")})
	wantRefused(t, b, api.ErrTwice, append(fresh[:1:1], fresh[0]))
	wantRefused(t, b, api.ErrPre, fresh, must)
	wantRefused(t, b, api.ErrPre, fresh, api.Pre{Filter: api.Filter{Id: "1"}})
	wantRefused(t, b, api.ErrThere, []api.Change{in("doc:1#owner@user:ann")})
	wantRefused(t, b, api.ErrAbsent, []api.Change{out("doc:2#owner@user:ann")})
	wantRefused(t, b, api.ErrFull, []api.Change{in("doc:2#owner@user:ann"), in("doc:3#owner@user:ann")})
	// Premises that hold are asked, and aren't written.
	if rev, e := b.Write(fresh, []api.Pre{{Must: true, Filter: api.Filter{Id: "1"}}, {Filter: api.Filter{Id: "2"}}}); rev != 3 || e != api.OK {
		t.Errorf("%d, %d", rev, e)
	}
	wantBytes(t, b, records(t, changed(0, smallText), written(1, in("doc:1#owner@user:ann")), written(2, touch("doc:1#owner@user:ann")), written(3, fresh...)), len(records(t, changed(0, smallText), written(1, in("doc:1#owner@user:ann")))))
	end := made(t, smallText, roomy(), api.MaxRev)
	wantRefused(t, end, api.ErrEnd, nil)
	wantRefused(t, end, api.ErrLong, make([]api.Change, 257))
}

// P14.6: the error of the text, of the schema, of the store's Change, in this order, and a book that is as it was.
func TestChangeRefusals(t *testing.T) {
	b := made(t, smallText, roomy(), 0)
	wantWrite(t, b, 1, in("doc:1#owner@user:ann"))
	for text, want := range map[string]api.Errno{
		"type": api.ErrSyntax, "\"": api.ErrToken, "cond c(): 9223372036854775808 > 1": api.ErrValue, strings.Repeat("type a ", 33): api.ErrLong,
		"type a type a": api.ErrTwice, "type a relation r: s": api.ErrRelation, "type t relation a: [t] not a": api.ErrStrata, "cond c(): 1": api.ErrKind,
		"type user": api.ErrBreaks, "": api.ErrBreaks, "type user type doc relation owner: [user:*]": api.ErrBreaks,
		// Each of these would break the tuple as well.
		"type a type a relation": api.ErrSyntax, "type user type user": api.ErrTwice,
	} {
		wantNoChange(t, b, want, text)
	}
	end := made(t, smallText, roomy(), api.MaxRev-1)
	wantWrite(t, end, api.MaxRev, in("doc:1#owner@user:ann"))
	wantNoChange(t, end, api.ErrEnd, smallText)
	wantNoChange(t, end, api.ErrEnd, "type user")
	wantNoChange(t, end, api.ErrSyntax, "type")
	wantNoChange(t, end, api.ErrTwice, "type a type a")
	wantChange(t, b, 2, "type doc relation owner: [user, user:*] type user")
	wantWrite(t, b, 3, in("doc:1#owner@user:*"))
}

// P14.5: Store is the book's store, the same each time; it may be read, and trimmed, which no record tells.
func TestStore(t *testing.T) {
	b := made(t, smallText, api.Limits{Tuples: 10, Keep: 4}, 0)
	s := b.Store()
	for i := range int64(6) {
		wantWrite(t, b, i+1, owners(api.ChangeTouch, int(i))...)
	}
	if s != b.Store() || s.Newest() != 6 || s.Oldest() != 3 {
		t.Fatalf("%d to %d", s.Oldest(), s.Newest())
	}
	was, safe := b.Bytes()
	snap, e := s.Snap(4)
	if e != api.OK || snap.Len() != 3 {
		t.Errorf("%d tuples, %d", snap.Len(), e)
	}
	for _, oldest := range []int64{5, 6} {
		if e := s.Trim(oldest); e != api.OK {
			t.Errorf("Trim: %d", e)
		}
		wantBytes(t, b, string(was), safe)
		wantWrite(t, b, s.Newest()+1, touch("doc:1#owner@user:ann"))
		c, e := s.Commit(s.Newest())
		if e != api.OK || bytesOf(b) != string(was)+record(t, c) {
			t.Errorf("%d, %x", e, bytesOf(b))
		}
		was, safe = b.Bytes()
	}
	if e := s.Trim(s.Newest()); e != api.OK {
		t.Errorf("Trim: %d", e)
	}
	wantChange(t, b, 9, wideText)
	// The store that was in hand can be read behind a crash.
	left, e := b.Crash(0, 0)
	if e != api.OK || s.Newest() != 9 || s.Oldest() != 8 || len(left) != safe {
		t.Errorf("%d, %d to %d, %d bytes", e, s.Oldest(), s.Newest(), len(left))
	}
}

// Two books know nothing of one another.
func TestTwoBooks(t *testing.T) {
	a, b := made(t, smallText, roomy(), 0), made(t, smallText, roomy(), 0)
	was := whole(b)
	wantWrite(t, a, 1, in("doc:1#owner@user:ann"))
	wantChange(t, a, 2, wideText)
	wantWhole(t, b, was)
	wantSync(t, a)
	c := opened(t, bytesOf(a), roomy())
	wantWrite(t, a, 3)
	wantNewest(t, c, 2)
	wantWrite(t, c, 3, in("doc:2#owner@user:ann"))
	was = whole(c)
	a.Crash(0, 0)
	wantDead(t, a)
	wantWhole(t, c, was)
	wantWrite(t, b, 1)
}
