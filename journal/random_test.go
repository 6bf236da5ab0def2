package journal_test

import (
	"fmt"
	"math/rand"
	"strings"
	"testing"

	"latchkey/api"
	"latchkey/journal"
	"latchkey/schema"
	"latchkey/store"
	"latchkey/syntax"
)

func randomTuple(r *rand.Rand) api.Tuple {
	n := func(k int) int { return r.Intn(k) }
	switch n(7) {
	case 0:
		return fact(fmt.Sprintf("doc:%d#viewer@user:u%d with c{at: %d, l: [\"%s\"]}", n(3), n(3), n(9)-4, strings.Repeat("x", n(40))))
	case 1:
		return fact(fmt.Sprintf("doc:%d#viewer@user:u%d with d{x: %s}", n(3), n(3), []string{"0.5", "-0.0", "nan", "inf", "-1.5"}[n(5)]))
	case 2:
		return fact(fmt.Sprintf("doc:%d#viewer@user:*", n(3)))
	case 3:
		return fact(fmt.Sprintf("team:%d#member@team:%d#member", n(3), n(3)))
	case 4:
		return fact(fmt.Sprintf("team:%d#member@user:u%d", n(3), n(3)))
	}
	return fact(fmt.Sprintf("doc:%d#owner@user:u%d", n(3), n(3)))
}

func randomChanges(r *rand.Rand) []api.Change {
	var l []api.Change
	for range r.Intn(4) {
		l = append(l, api.Change{Kind: 1 + r.Intn(3), Tuple: randomTuple(r)})
	}
	return l
}

// randomText is a schema's text: of a model, mostly one that wideText's tuples fit, or of none.
func randomText(r *rand.Rand) string {
	return []string{wideText, wideText + " type more", "type more " + wideText + " cond z(): true", smallText, "type a type a", "", "type"}[r.Intn(7)]
}

func randomCommit(r *rand.Rand) api.Commit {
	rev := r.Int63n(12)
	if r.Intn(20) == 0 {
		rev = r.Int63n(api.MaxRev + 1)
	}
	if r.Intn(4) > 0 {
		return written(rev, randomChanges(r)...)
	}
	text := randomText(r)
	if _, spot := syntax.Parse(text); spot.Err != api.OK {
		text = "type a"
	}
	return changed(rev, text)
}

// spoilt is bytes with something changed: turned, gone, more, or twice.
func spoilt(r *rand.Rand, b string) string {
	if b == "" {
		return b
	}
	i, k := r.Intn(len(b)), r.Intn(len(b))
	if i > k {
		i, k = k, i
	}
	switch r.Intn(5) {
	case 0:
		return b[:i] + string([]byte{b[i] ^ byte(1+r.Intn(255))}) + b[i+1:]
	case 1:
		return b[:i] + b[i+1:]
	case 2:
		return b[:i] + string([]byte{byte(r.Intn(256))}) + b[i:]
	case 3:
		return b[:k] + b[i:]
	}
	return b[:k]
}

// P14.1, P14.2, P14.4: records, scans and books of any commits, whole and spoilt, the sum right or wrong, are what the chapter's words say.
func TestRandomRecords(t *testing.T) {
	r := seeded(1)
	found := 0
	for range 3000 {
		b := ""
		if r.Intn(4) > 0 {
			b = record(t, changed(r.Int63n(6), wideText))
		}
		for range r.Intn(6) {
			c := randomCommit(r)
			if record(t, c) != plainRecord(c) {
				t.Fatalf("%s: %x", wholeCommit(c), record(t, c))
			}
			switch r.Intn(12) {
			case 0:
				b += spoilt(r, plainRecord(c))
			case 1:
				b += sealed(spoilt(r, plainBody(c)))
			default:
				b += plainRecord(c)
			}
		}
		found += wantPlain(t, b)
		wantPlainBook(t, b, api.Limits{Tuples: 1 + r.Intn(5), Keep: 1 + r.Intn(4)})
	}
	if found < 5000 {
		t.Errorf("only %d commits", found)
	}
}

// wantPlainBook holds Open against the chapter's words.
func wantPlainBook(t *testing.T, b string, lim api.Limits) {
	t.Helper()
	s, n, e := plainOpen(b, lim)
	if e != api.OK {
		wantNoOpen(t, b, lim, e)
		return
	}
	book := opened(t, b, lim)
	wantSafe(t, book, b[:n])
	if was, now := wholeStore(s), wholeStore(book.Store()); was != now {
		t.Errorf("%s\nbut\n%s", was, now)
	}
}

// diary is what a book must be: a store that is written beside it, the records one behind the other, and what each commit left.
type diary struct {
	store   *store.Store
	records []string
	safe    int // how many of the records
	revs    map[int64]string
}

func diaryOf(t *testing.T, text string, lim api.Limits, start int64) *diary {
	t.Helper()
	s, e := store.New(model(t, text), lim, start)
	if e != api.OK {
		t.Fatal(e)
	}
	d := &diary{store: s, records: []string{plainRecord(changed(start, text))}, safe: 1}
	d.revs = map[int64]string{start: wholeRev(s, start)}
	return d
}

func (d *diary) noted(rev int64, e api.Errno) (int64, api.Errno) {
	if e == api.OK {
		c, _ := d.store.Commit(rev)
		d.records = append(d.records, plainRecord(c))
		d.revs[rev] = wholeRev(d.store, rev)
	}
	return rev, e
}

func (d *diary) change(text string) (int64, api.Errno) {
	s, spot := syntax.Parse(text)
	if spot.Err != api.OK {
		return 0, spot.Err
	}
	m, fault := schema.Of(s)
	if fault.Err != api.OK {
		return 0, fault.Err
	}
	return d.noted(d.store.Change(m))
}

// step does something to both, and asks that they answer the same.
func (d *diary) step(t *testing.T, r *rand.Rand, b *journal.Book) {
	t.Helper()
	switch r.Intn(10) {
	case 0:
		wantSync(t, b)
		d.safe = len(d.records)
	case 1:
		text := randomText(r)
		rev, e := d.change(text)
		if got, f := b.Change(text); got != rev || f != e {
			t.Errorf("Change(%s): %d, %d, want %d, %d", text, got, f, rev, e)
		}
	case 2:
		oldest := d.store.Newest() - int64(r.Intn(3))
		if e, f := d.store.Trim(oldest), b.Store().Trim(oldest); e != f {
			t.Errorf("Trim(%d): %d, want %d", oldest, f, e)
		}
	default:
		l, pres := randomChanges(r), []api.Pre(nil)
		if r.Intn(3) == 0 {
			pres = []api.Pre{{Must: r.Intn(2) == 0, Filter: api.Filter{Id: fmt.Sprint(r.Intn(3))}}}
		}
		rev, e := d.noted(d.store.Write(l, pres))
		if got, f := b.Write(l, pres); got != rev || f != e {
			t.Errorf("Write(%s): %d, %d, want %d, %d", wholeChanges(l), got, f, rev, e)
		}
	}
	wantBytes(t, b, strings.Join(d.records, ""), len(strings.Join(d.records[:d.safe], "")))
}

// behind is what a crash leaves by the chapter's words: the bytes, and how many records are whole.
func (d *diary) behind(keep int, torn byte) (string, int) {
	safe, loose := strings.Join(d.records[:d.safe], ""), strings.Join(d.records[d.safe:], "")
	keep = min(max(keep, 0), len(loose))
	left := []byte(safe + loose[:keep])
	room := len(left)
	if keep > 0 && torn != 0 {
		room--
		left[room] ^= torn
	}
	n := d.safe
	for n < len(d.records) && len(strings.Join(d.records[:n+1], "")) <= room {
		n++
	}
	return string(left), n
}

// P14.5 to P14.9: books that are written, trimmed, made safe, crashed and opened at random are what a store beside them and their records say.
func TestRandomBooks(t *testing.T) {
	r := seeded(2)
	lost, torn := 0, 0
	for range 200 {
		lim := api.Limits{Tuples: 2 + r.Intn(9), Keep: 1 + r.Intn(5)}
		start := r.Int63n(300)
		b, d := made(t, wideText, lim, start), diaryOf(t, wideText, lim, start)
		for range 4 {
			for range r.Intn(12) {
				d.step(t, r, b)
			}
			if was, now := wholeStore(d.store), wholeStore(b.Store()); was != now {
				t.Fatalf("%s\nbut\n%s", was, now)
			}
			keep, x := r.Intn(150)-10, byte(r.Intn(2)*r.Intn(256))
			want, n := d.behind(keep, x)
			wantLeft(t, b, keep, x, want)
			b = opened(t, want, lim)
			lost += len(d.records) - n
			if x != 0 {
				torn++
			}
			d = d.cut(t, b, n)
		}
	}
	if lost < 100 || torn < 100 {
		t.Errorf("%d commits were lost, %d were torn", lost, torn)
	}
}

// cut is the diary of a book that was opened behind a crash, with so many of the records, at which it answers what it answered at each revision that it keeps.
func (d *diary) cut(t *testing.T, b *journal.Book, n int) *diary {
	t.Helper()
	wantSafe(t, b, strings.Join(d.records[:n], ""))
	s, _, e := plainOpen(strings.Join(d.records[:n], ""), d.store.Limits())
	if e != api.OK || wholeStore(s) != wholeStore(b.Store()) {
		t.Fatalf("%d, %s\nbut\n%s", e, wholeStore(s), wholeStore(b.Store()))
	}
	for rev := s.Oldest(); rev <= s.Newest(); rev++ {
		if now := wholeRev(b.Store(), rev); now != d.revs[rev] {
			t.Errorf("at %d: %s\nbut\n%s", rev, d.revs[rev], now)
		}
	}
	return &diary{store: s, records: d.records[:n:n], safe: n, revs: d.revs}
}
