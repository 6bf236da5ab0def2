package journal_test

import (
	"fmt"
	"math"
	"math/rand"
	"strings"
	"testing"

	"latchkey/api"
	"latchkey/journal"
	"latchkey/schema"
	"latchkey/store"
	"latchkey/syntax"
	"latchkey/tuples"
)

// smallText is the schema of the chapter's examples.
const smallText = "type user type doc relation owner: [user]"

// wideText has subjects of each kind, under conditions and without.
const wideText = `type user
type team
  relation member: [user, team#member, user:* with c, team:*]
type doc
  relation owner: [user]
  relation viewer: [user with c, user:*, team#member with d, user with d]
  relation any: owner or viewer
cond c(at: int, l: texts): at > 3
cond d(x: real): x > 0.5`

// roomy are limits with room enough for most tests.
func roomy() api.Limits { return api.Limits{Tuples: 100, Keep: 50} }

func fact(s string) api.Tuple {
	x, e := tuples.Parse(s)
	if e != api.OK {
		panic(s)
	}
	return x
}

func in(s string) api.Change    { return api.Change{Kind: api.ChangeInsert, Tuple: fact(s)} }
func out(s string) api.Change   { return api.Change{Kind: api.ChangeDelete, Tuple: fact(s)} }
func touch(s string) api.Change { return api.Change{Kind: api.ChangeTouch, Tuple: fact(s)} }

// owners are n changes of that kind, each of another owner.
func owners(kind, n int) []api.Change {
	var l []api.Change
	for i := range n {
		l = append(l, api.Change{Kind: kind, Tuple: fact(fmt.Sprintf("doc:%d#owner@user:u%d", i, i%7))})
	}
	return l
}

func written(rev int64, l ...api.Change) api.Commit {
	return api.Commit{Rev: rev, Kind: api.CommitWrite, Changes: l}
}

func changed(rev int64, text string) api.Commit {
	return api.Commit{Rev: rev, Kind: api.CommitSchema, Schema: parsed(text)}
}

func parsed(text string) api.Schema {
	s, spot := syntax.Parse(text)
	if spot.Err != api.OK {
		panic(text)
	}
	return s
}

func arg(name string, n int64) api.Arg {
	return api.Arg{Name: name, Value: api.Value{Kind: api.ValInt, Int: n}}
}

// record answers the record of a commit that may be written.
func record(t *testing.T, c api.Commit) string {
	t.Helper()
	b, e := journal.Record(c)
	if e != api.OK || len(b) == 0 {
		t.Fatalf("Record(%s): %x, %d", show(wholeCommit(c)), b, e)
	}
	return string(b)
}

// records are those of several commits, one behind the other.
func records(t *testing.T, l ...api.Commit) string {
	t.Helper()
	all := ""
	for _, c := range l {
		all += record(t, c)
	}
	return all
}

func wantNoRecord(t *testing.T, c api.Commit, want api.Errno) {
	t.Helper()
	if b, e := journal.Record(c); len(b) != 0 || e != want {
		t.Errorf("Record(%s): %x, %d, want %d", show(wholeCommit(c)), b, e, want)
	}
}

// wantScan asks for the commits with whose records the bytes begin, and for nothing else.
func wantScan(t *testing.T, b string, n int, want ...api.Commit) {
	t.Helper()
	l, size := journal.Scan([]byte(b))
	if wholeCommits(l) != wholeCommits(want) || size != n {
		t.Errorf("Scan(%s): %s, %d, want %s, %d", show(fmt.Sprintf("%x", b)), show(wholeCommits(l)), size, show(wholeCommits(want)), n)
	}
}

func made(t *testing.T, text string, lim api.Limits, start int64) *journal.Book {
	t.Helper()
	b, e := journal.New(text, lim, start)
	if b == nil || e != api.OK {
		t.Fatalf("New(%s, %v, %d): %v, %d", show(text), lim, start, b != nil, e)
	}
	return b
}

func opened(t *testing.T, b string, lim api.Limits) *journal.Book {
	t.Helper()
	book, e := journal.Open([]byte(b), lim)
	if book == nil || e != api.OK {
		t.Fatalf("Open(%s, %v): %v, %d", show(fmt.Sprintf("%x", b)), lim, book != nil, e)
	}
	return book
}

func wantNoOpen(t *testing.T, b string, lim api.Limits, want api.Errno) {
	t.Helper()
	if book, e := journal.Open([]byte(b), lim); book != nil || e != want {
		t.Errorf("Open(%s, %v): %v, %d, want %d", show(fmt.Sprintf("%x", b)), lim, book != nil, e, want)
	}
}

func wantWrite(t *testing.T, b *journal.Book, want int64, l ...api.Change) {
	t.Helper()
	if rev, e := b.Write(l, nil); rev != want || e != api.OK {
		t.Fatalf("Write(%s): %d, %d, want %d", show(wholeChanges(l)), rev, e, want)
	}
	wantNewest(t, b, want)
}

func wantChange(t *testing.T, b *journal.Book, want int64, text string) {
	t.Helper()
	if rev, e := b.Change(text); rev != want || e != api.OK {
		t.Fatalf("Change(%s): %d, %d, want %d", show(text), rev, e, want)
	}
	wantNewest(t, b, want)
}

func wantSync(t *testing.T, b *journal.Book) {
	t.Helper()
	if e := b.Sync(); e != api.OK {
		t.Fatalf("Sync: %d", e)
	}
}

func wantNewest(t *testing.T, b *journal.Book, want int64) {
	t.Helper()
	if got := b.Store().Newest(); got != want {
		t.Fatalf("the newest is %d, want %d", got, want)
	}
}

// wantBytes asks for a book's bytes, and how many of them are safe.
func wantBytes(t *testing.T, b *journal.Book, want string, safe int) {
	t.Helper()
	if got, n := b.Bytes(); string(got) != want || n != safe {
		t.Errorf("Bytes: %s, %d, want %s, %d", show(fmt.Sprintf("%x", got)), n, show(fmt.Sprintf("%x", want)), safe)
	}
}

// wantSafe asks for a book's bytes, all of which are safe.
func wantSafe(t *testing.T, b *journal.Book, want string) {
	t.Helper()
	wantBytes(t, b, want, len(want))
}

func bytesOf(b *journal.Book) string {
	all, _ := b.Bytes()
	return string(all)
}

// wantLeft crashes a book, and asks for what is left of it.
func wantLeft(t *testing.T, b *journal.Book, keep int, torn byte, want string) {
	t.Helper()
	if left, e := b.Crash(keep, torn); string(left) != want || e != api.OK {
		t.Errorf("Crash(%d, %d): %x, %d, want %x", keep, torn, left, e, want)
	}
	wantDead(t, b)
}

// wantDead asks every call of a book that a crash has killed.
func wantDead(t *testing.T, b *journal.Book) {
	t.Helper()
	wantNothing(t, b, api.ErrDead)
}

// wantNothing asks every call of a book that answers nothing but that error.
func wantNothing(t *testing.T, b *journal.Book, want api.Errno) {
	t.Helper()
	for _, l := range [][]api.Change{nil, {in("doc:9#owner@user:ann")}, make([]api.Change, 257)} {
		if rev, e := b.Write(l, make([]api.Pre, len(l))); rev != 0 || e != want {
			t.Errorf("Write: %d, %d, want %d", rev, e, want)
		}
	}
	for _, text := range []string{smallText, "", "type", "type a type a"} {
		if rev, e := b.Change(text); rev != 0 || e != want {
			t.Errorf("Change(%s): %d, %d, want %d", text, rev, e, want)
		}
	}
	for _, keep := range []int{-1, 0, 1, 1 << 40} {
		if left, e := b.Crash(keep, 1); len(left) != 0 || e != want {
			t.Errorf("Crash(%d, 1): %x, %d, want %d", keep, left, e, want)
		}
	}
	all, safe := b.Bytes()
	if e := b.Sync(); e != want || b.Store() != nil || len(all) != 0 || safe != 0 {
		t.Errorf("Sync: %d, want %d; Store: %v; Bytes: %x, %d", e, want, b.Store(), all, safe)
	}
}

// wantRefused asks for an error, with nothing beside it, and a book that answers all as it did.
func wantRefused(t *testing.T, b *journal.Book, want api.Errno, l []api.Change, pres ...api.Pre) {
	t.Helper()
	was := whole(b)
	if rev, e := b.Write(l, pres); rev != 0 || e != want {
		t.Errorf("Write(%s): %d, %d, want %d", show(wholeChanges(l)), rev, e, want)
	}
	wantWhole(t, b, was)
}

func wantNoChange(t *testing.T, b *journal.Book, want api.Errno, text string) {
	t.Helper()
	was := whole(b)
	if rev, e := b.Change(text); rev != 0 || e != want {
		t.Errorf("Change(%s): %d, %d, want %d", show(text), rev, e, want)
	}
	wantWhole(t, b, was)
}

func wantWhole(t *testing.T, b *journal.Book, was string) {
	t.Helper()
	if now := whole(b); now != was {
		t.Errorf("the book isn't as it was:\n%s\nbut\n%s", was, now)
	}
}

// whole tells all that a book answers: its bytes, and all of its store.
func whole(b *journal.Book) string {
	all, safe := b.Bytes()
	return fmt.Sprintf("%x %d\n", all, safe) + wholeStore(b.Store())
}

// wholeStore tells a store's limits, what it keeps, and each revision with its neighbours.
func wholeStore(s *store.Store) string {
	var b strings.Builder
	fmt.Fprintln(&b, s.Limits(), s.Oldest(), s.Newest())
	for rev := s.Oldest() - 1; rev <= s.Newest()+1; rev++ {
		b.WriteString(wholeRev(s, rev))
	}
	return b.String()
}

// wholeRev tells all that a store answers of a revision.
func wholeRev(s *store.Store, rev int64) string {
	var b strings.Builder
	snap, e := s.Snap(rev)
	c, f := s.Commit(rev)
	fmt.Fprintln(&b, rev, e, f, wholeCommit(c))
	b.WriteString(schemaText(snap.Model().Schema()))
	for x := range snap.All() {
		fmt.Fprintln(&b, wholeTuple(x))
		for y := range snap.By(x.Subject) {
			fmt.Fprintln(&b, " by", wholeTuple(y))
		}
	}
	return b.String()
}

// wholeTuple tells a tuple, whether it may be or not, the bits of its reals too; nil and empty lists are the same.
func wholeTuple(x api.Tuple) string {
	var b strings.Builder
	fmt.Fprintf(&b, "%q %q %q %q", x.Object, x.Rel, x.Subject, x.Cond)
	for _, a := range x.Args {
		fmt.Fprintf(&b, " %q=%d/%v/%d/%x/%q/%q", a.Name, a.Value.Kind, a.Value.Bool, a.Value.Int, math.Float32bits(a.Value.Real), a.Value.Text, a.Value.Texts)
	}
	return b.String()
}

func wholeChanges(l []api.Change) string {
	var b strings.Builder
	for _, c := range l {
		fmt.Fprintln(&b, c.Kind, wholeTuple(c.Tuple))
	}
	return b.String()
}

func wholeCommit(c api.Commit) string {
	return fmt.Sprintln(c.Rev, c.Kind) + wholeChanges(c.Changes) + schemaText(c.Schema)
}

func wholeCommits(l []api.Commit) string {
	var b strings.Builder
	for _, c := range l {
		b.WriteString(wholeCommit(c) + "--\n")
	}
	return b.String()
}

func schemaText(s api.Schema) string {
	text, e := syntax.Print(s)
	if e != api.OK {
		return fmt.Sprintf("%d %+v", e, s)
	}
	return text
}

func model(t *testing.T, text string) *schema.Model {
	t.Helper()
	m, fault := schema.Of(parsed(text))
	if fault.Err != api.OK {
		t.Fatalf("%s: %+v", show(text), fault)
	}
	return m
}

// show tells a text, no longer than one can read.
func show(s string) string {
	if len(s) > 2000 {
		return fmt.Sprint(s[:2000], "..", len(s))
	}
	return s
}

func seeded(n int64) *rand.Rand { return rand.New(rand.NewSource(n)) }
