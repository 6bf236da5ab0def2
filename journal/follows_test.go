package journal_test

import (
	"testing"

	"latchkey/api"
	"latchkey/journal"
)

// someBook is a book with writes and changes of all kinds, more than are kept, and with the last ones loose.
func someBook(t *testing.T, lim api.Limits) *journal.Book {
	t.Helper()
	b := made(t, wideText, lim, 20)
	wantWrite(t, b, 21, in("doc:1#owner@user:ann"), in("team:x#member@user:ann"), touch("doc:1#viewer@user:*"))
	wantWrite(t, b, 22, touch(`doc:1#viewer@user:bob with c{at: 4, l: ["b", "a"]}`), out("doc:1#owner@user:ann"))
	wantChange(t, b, 23, "type more "+wideText)
	wantWrite(t, b, 24)
	wantWrite(t, b, 25, out("doc:1#viewer@user:bob"), in("doc:2#viewer@user:ann with d{x: nan}"))
	wantSync(t, b)
	wantWrite(t, b, 26, in("team:y#member@team:x#member"))
	wantChange(t, b, 27, wideText)
	return b
}

// goOn does the same to two books, and asks that both answer the same.
func goOn(t *testing.T, a, b *journal.Book) {
	t.Helper()
	for _, l := range [][]api.Change{
		{in("doc:3#owner@user:ann")}, {in("doc:3#owner@user:ann")}, {out("doc:9#owner@user:ann")}, nil, {touch("doc:3#owner@user:ann"), in("doc:4#viewer@user:*")}, {{}},
		{in("doc:5#owner@user:ann"), in("doc:6#owner@user:ann"), in("doc:7#owner@user:ann"), in("doc:8#owner@user:ann")}, {out("team:x#member@user:ann")},
	} {
		rev, e := a.Write(l, nil)
		if again, f := b.Write(l, nil); again != rev || f != e {
			t.Errorf("Write(%s): %d, %d, but %d, %d", wholeChanges(l), rev, e, again, f)
		}
	}
	for _, text := range []string{"type", "type user", "type a type a", wideText + " type more", wideText} {
		rev, e := a.Change(text)
		if again, f := b.Change(text); again != rev || f != e {
			t.Errorf("Change(%s): %d, %d, but %d, %d", text, rev, e, again, f)
		}
	}
	if bytesOf(a) != bytesOf(b) {
		t.Errorf("%x\nbut\n%x", bytesOf(a), bytesOf(b))
	}
	wantAlike(t, a, b)
}

// wantAlike asks two books' stores for the same newest revision, and for the same answers at each revision that both keep.
func wantAlike(t *testing.T, a, b *journal.Book) {
	t.Helper()
	x, y := a.Store(), b.Store()
	if x.Newest() != y.Newest() || x.Limits() != y.Limits() {
		t.Errorf("%d, %v, but %d, %v", x.Newest(), x.Limits(), y.Newest(), y.Limits())
	}
	for rev := max(x.Oldest(), y.Oldest()); rev <= x.Newest()+1; rev++ {
		if was, now := wholeRev(x, rev), wholeRev(y, rev); was != now {
			t.Errorf("at %d: %s\nbut\n%s", rev, was, now)
		}
	}
}

// P14.9: a book that is opened of a book's bytes has the same bytes and a store that answers alike; both go on alike.
func TestOpenOfBytes(t *testing.T) {
	for keep := 1; keep < 12; keep++ {
		lim := api.Limits{Tuples: 6, Keep: keep}
		for _, trim := range []int64{0, 1, 3} {
			b := someBook(t, lim)
			if oldest := b.Store().Newest() - trim; trim > 0 && oldest >= b.Store().Oldest() {
				b.Store().Trim(oldest)
			}
			o := opened(t, bytesOf(b), lim)
			wantSafe(t, o, bytesOf(b))
			wantAlike(t, b, o)
			// Opened once more, it is the same book.
			wantWhole(t, opened(t, bytesOf(o), lim), whole(o))
			goOn(t, b, o)
			goOn(t, opened(t, bytesOf(b), lim), o)
		}
	}
}

// P14.9: what is opened behind a crash is the book as it was behind some commit: it goes on as one that was never written further.
func TestGoesOnBehindCrash(t *testing.T) {
	lim := api.Limits{Tuples: 6, Keep: 4}
	whole := someBook(t, lim)
	all, safe := whole.Bytes()
	for keep := 0; keep <= len(all)-safe; keep += 5 {
		for _, torn := range []byte{0, 3} {
			b := someBook(t, lim)
			left, e := b.Crash(keep, torn)
			if e != api.OK {
				t.Fatal(e)
			}
			o := opened(t, string(left), lim)
			was := opened(t, string(all[:len(bytesOf(o))]), lim)
			if o.Store().Newest() < 25 {
				t.Errorf("%d: what was safe is lost", o.Store().Newest())
			}
			goOn(t, was, o)
		}
	}
}

// P14.9: Scan of records, one behind the other, tells their commits and all their bytes.
func TestScanOfRecords(t *testing.T) {
	b := someBook(t, roomy())
	all := bytesOf(b)
	l, n := journal.Scan([]byte(all))
	if len(l) != 8 || n != len(all) || records(t, l...) != all {
		t.Fatalf("%d commits, %d bytes of %d", len(l), n, len(all))
	}
	for _, c := range l[1:] {
		own, e := b.Store().Commit(c.Rev)
		if e != api.OK || wholeCommit(own) != wholeCommit(c) {
			t.Errorf("%s, but %s, %d", wholeCommit(c), wholeCommit(own), e)
		}
	}
	if wholeCommit(l[0]) != wholeCommit(changed(20, wideText)) {
		t.Errorf("%s", wholeCommit(l[0]))
	}
	wantScan(t, all+all, 2*len(all), append(l, l...)...)
}
