package journal_test

import (
	"testing"

	"latchkey/api"
)

// wantOpened opens bytes, and asks for the book that the chapter's words say, whose bytes have that many and whose newest revision is that.
func wantOpened(t *testing.T, b string, lim api.Limits, size int, newest int64) {
	t.Helper()
	book := opened(t, b, lim)
	wantSafe(t, book, b[:size])
	wantNewest(t, book, newest)
	s, n, e := plainOpen(b, lim)
	if e != api.OK || n != size || wholeStore(s) != wholeStore(book.Store()) {
		t.Errorf("%d, %d bytes, %s\nbut\n%s", e, n, wholeStore(s), wholeStore(book.Store()))
	}
}

// P14.4: ErrRecord of what doesn't begin with the record of a schema that is a model's.
func TestOpenNoRecord(t *testing.T) {
	first := record(t, changed(7, smallText))
	for _, b := range []string{
		"", "\x6c", "\x00", first[:len(first)-1], first[1:], "\x00" + first, first[:len(first)-1] + "\x00",
		record(t, written(0)), record(t, written(7, in("doc:1#owner@user:ann"))),
		records(t, written(6), changed(7, smallText)), records(t, written(7), changed(8, smallText), written(9)),
		record(t, changed(7, "type a type a")), record(t, changed(7, "type a relation r: s")), record(t, changed(0, "cond c(): 1")),
		records(t, changed(7, "type a type a"), changed(7, smallText)), records(t, changed(7, "type t relation a: [t] not a"), changed(8, smallText)),
		sealed("\x07\x02\x05type\n"), sealed("\x07\x02\x06type a") + first,
	} {
		wantNoOpen(t, b, roomy(), api.ErrRecord)
		// It goes ahead of what is wrong with the limits.
		wantNoOpen(t, b, api.Limits{}, api.ErrRecord)
	}
}

// P14.4: the store's refusals, whatever stands behind the first record.
func TestOpenLimits(t *testing.T) {
	for _, lim := range []api.Limits{{}, {Tuples: 1}, {Keep: 1}, {Tuples: -1, Keep: 1}, {Tuples: api.MaxTuples + 1, Keep: 1}, {Tuples: 1, Keep: api.MaxKeep + 1}} {
		wantNoOpen(t, record(t, changed(7, smallText)), lim, api.ErrArg)
		wantNoOpen(t, records(t, changed(0, smallText), written(1)), lim, api.ErrArg)
		wantNoOpen(t, record(t, changed(api.MaxRev, smallText))+"x", lim, api.ErrArg)
	}
}

// P14.4: the first record alone, at every start.
func TestOpenStart(t *testing.T) {
	for _, start := range []int64{0, 7, api.MaxRev - 1, api.MaxRev} {
		b := record(t, changed(start, wideText))
		wantOpened(t, b, roomy(), len(b), start)
		wantOpened(t, b+"x", roomy(), len(b), start)
		wantOpened(t, b, api.Limits{Tuples: 1, Keep: 1}, len(b), start)
	}
	b := records(t, changed(api.MaxRev-1, ""), written(api.MaxRev))
	wantOpened(t, b, roomy(), len(b), api.MaxRev)
	book := opened(t, b, roomy())
	wantRefused(t, book, api.ErrEnd, nil)
	wantNoChange(t, book, api.ErrEnd, smallText)
}

// P14.4: all commits are made, of both kinds, one behind the other; the limits are those that were handed in.
func TestOpenAll(t *testing.T) {
	b := records(t, someCommits()...)
	for keep := 1; keep < 9; keep++ {
		wantOpened(t, b, api.Limits{Tuples: 10, Keep: keep}, len(b), 12)
		wantOpened(t, b+b, api.Limits{Tuples: 10, Keep: keep}, len(b), 12)
	}
}

// P14.4: what can't be made ends it, and all that stands behind is forgotten, though it could be made.
func TestOpenUpTo(t *testing.T) {
	start := []api.Commit{changed(7, wideText), written(8, in("doc:1#owner@user:ann"), in("team:x#member@user:ann"))}
	b := records(t, start...)
	fresh := in("doc:2#owner@user:ann")
	for name, c := range map[string]api.Commit{
		"a Rev as the newest":           written(8, fresh),
		"a Rev below":                   written(7, fresh),
		"a Rev of 0":                    written(0, fresh),
		"a Rev that is two more":        written(10, fresh),
		"the greatest Rev":              written(api.MaxRev, fresh),
		"a schema's Rev as the newest":  changed(8, wideText),
		"a schema's Rev of two more":    changed(10, wideText),
		"an insert of what is there":    written(9, in("doc:1#owner@user:ann")),
		"a delete of what isn't":        written(9, out("doc:2#owner@user:ann")),
		"the same key twice":            written(9, fresh, touch("doc:2#owner@user:ann")),
		"a type that isn't":             written(9, in("file:1#owner@user:ann")),
		"a relation that isn't":         written(9, in("doc:1#reader@user:ann")),
		"a subject that isn't":          written(9, touch("doc:1#owner@bot:ann")),
		"what isn't allowed":            written(9, in("doc:1#owner@user:*")),
		"a delete of what isn't so":     written(9, out("doc:1#owner@user:*")),
		"an argument that isn't":        written(9, in("doc:1#viewer@user:ann with c{to: 1}")),
		"an argument's kind":            written(9, in("doc:1#viewer@user:ann with c{at: 1.0}")),
		"more tuples than there may be": written(9, in("doc:2#owner@user:ann"), in("doc:3#owner@user:ann"), in("doc:4#owner@user:ann")),
		"a schema that is no model's":   changed(9, "type a type a"),
		"a schema that tuples break":    changed(9, "type user type doc relation owner: [user]"),
	} {
		t.Run(name, func(t *testing.T) {
			lim := api.Limits{Tuples: 4, Keep: 3}
			next, after := record(t, written(9, touch("doc:1#owner@user:ann"))), record(t, written(10))
			wantOpened(t, b+record(t, c), lim, len(b), 8)
			wantOpened(t, b+record(t, c)+next+after, lim, len(b), 8)
			wantOpened(t, b+record(t, c)+after, lim, len(b), 8)
			if c.Rev != 10 {
				wantOpened(t, b+next+record(t, c), lim, len(b+next), 9)
			}
			wantOpened(t, b+next+after, lim, len(b+next+after), 10)
		})
	}
}

// P14.4: a commit that is refused under these limits is forgotten with all behind it, though those be of none or of fewer tuples.
func TestOpenFewer(t *testing.T) {
	l := []api.Commit{changed(0, smallText), written(1, in("doc:1#owner@user:ann")), written(2, in("doc:2#owner@user:ann")), written(3), written(4, out("doc:1#owner@user:ann")), changed(5, wideText)}
	b := records(t, l...)
	wantOpened(t, b, api.Limits{Tuples: 2, Keep: 9}, len(b), 5)
	wantOpened(t, b, api.Limits{Tuples: 1, Keep: 9}, len(records(t, l[:2]...)), 1)
	// A write that stays within them as a whole is made.
	l[2].Changes = append(l[2].Changes, out("doc:1#owner@user:ann"))
	l[4].Changes = []api.Change{out("doc:2#owner@user:ann")}
	b = records(t, l...)
	wantOpened(t, b, api.Limits{Tuples: 1, Keep: 9}, len(b), 5)
}

// P14.4: a record that isn't whole, or is turned, ends it.
func TestOpenTurned(t *testing.T) {
	l := someCommits()
	b := records(t, l...)
	first := len(record(t, l[0]))
	whole, end := 1, first
	for n := first; n < len(b); n++ {
		if next := len(record(t, l[whole])); n == end+next {
			whole, end = whole+1, n
		}
		wantOpened(t, b[:n], roomy(), end, l[whole-1].Rev)
		wantOpened(t, b[:n]+string([]byte{b[n] ^ 1})+b[n+1:], roomy(), end, l[whole-1].Rev)
	}
}

// P14.4: a book that was opened is written on as any other.
func TestOpenGoesOn(t *testing.T) {
	l := []api.Commit{changed(7, smallText), written(8, in("doc:1#owner@user:ann"))}
	b := records(t, l...)
	book := opened(t, b+records(t, written(11), written(9))[:9], roomy())
	wantWrite(t, book, 9, in("doc:2#owner@user:ann"))
	wantChange(t, book, 10, wideText)
	more := records(t, written(9, in("doc:2#owner@user:ann")), changed(10, wideText))
	wantBytes(t, book, b+more, len(b))
	wantSync(t, book)
	wantSafe(t, book, b+more)
	wantLeft(t, book, 1, 1, b+more)
	wantOpened(t, b+more, roomy(), len(b+more), 10)
}
