package store_test

import (
	"fmt"
	"iter"
	"math"
	"math/rand"
	"slices"
	"strconv"
	"strings"
	"testing"

	"latchkey/api"
	"latchkey/schema"
	"latchkey/store"
	"latchkey/syntax"
	"latchkey/tuples"
)

// plainText is the schema of the chapter's examples.
const plainText = "type user type doc relation owner: [user] relation viewer: [user, user:*, user with c] cond c(at: int): at > 3"

// wideText has subjects of each kind, under conditions and without, and a relation that allows nothing.
const wideText = `type user
type team
  relation member: [user, team#member, user:* with c, team:*]
type doc
  relation owner: [user]
  relation viewer: [user with c, user:*, team#member with d, user with d]
  relation any: owner or viewer
cond c(at: int, l: texts): at > 3
cond d(x: real): x > 0.5`

// The tuples of the chapter's examples.
const (
	o = "doc:1#owner@user:ann"
	v = "doc:1#viewer@user:ann"
	w = "doc:1#viewer@user:ann with c"
)

func model(t *testing.T, text string) *schema.Model {
	t.Helper()
	s, spot := syntax.Parse(text)
	m, fault := schema.Of(s)
	if spot.Err != api.OK || fault.Err != api.OK {
		t.Fatalf("%s: %+v, %+v", text, spot, fault)
	}
	return m
}

func fact(s string) api.Tuple {
	x, e := tuples.Parse(s)
	if e != api.OK {
		panic(s)
	}
	return x
}

func in(s string) api.Change    { return api.Change{Kind: api.ChangeInsert, Tuple: fact(s)} }
func out(s string) api.Change   { return api.Change{Kind: api.ChangeDelete, Tuple: fact(s)} }
func touch(s string) api.Change { return api.Change{Kind: api.ChangeTouch, Tuple: fact(s)} }

// ins are inserts, one of each text.
func ins(texts ...string) []api.Change {
	var l []api.Change
	for _, s := range texts {
		l = append(l, in(s))
	}
	return l
}

// owners are n tuples that rise, from the number first on.
func owners(first, n int) []string {
	var l []string
	for i := range n {
		l = append(l, fmt.Sprintf("doc:%06d#owner@user:u%d", first+i, (first+i)%7))
	}
	return l
}

func must(f api.Filter) api.Pre    { return api.Pre{Must: true, Filter: f} }
func mustNot(f api.Filter) api.Pre { return api.Pre{Filter: f} }

func made(t *testing.T, text string, lim api.Limits, start int64) *store.Store {
	t.Helper()
	s, e := store.New(model(t, text), lim, start)
	if s == nil || e != api.OK {
		t.Fatalf("New(%v, %d): %d", lim, start, e)
	}
	return s
}

// roomy is a store with room enough for most tests, at 0, with these tuples at 1.
func roomy(t *testing.T, text string, texts ...string) *store.Store {
	t.Helper()
	s := made(t, text, api.Limits{Tuples: 1000, Keep: 100}, 0)
	wantWrite(t, s, 1, ins(texts...)...)
	return s
}

func wantWrite(t *testing.T, s *store.Store, want int64, l ...api.Change) {
	t.Helper()
	if rev, e := s.Write(l, nil); rev != want || e != api.OK {
		t.Fatalf("Write(%s): %d, %d, want %d", show(l), rev, e, want)
	}
	if s.Newest() != want {
		t.Fatalf("the newest is %d, want %d", s.Newest(), want)
	}
}

// wantRefused asks for an error, with nothing beside it, and a store that answers all as it did.
func wantRefused(t *testing.T, s *store.Store, want api.Errno, l []api.Change, pres ...api.Pre) {
	t.Helper()
	was := whole(s)
	if rev, e := s.Write(l, pres); rev != 0 || e != want {
		t.Errorf("Write(%s, %s): %d, %d, want %d", show(l), show(pres), rev, e, want)
	}
	wantWhole(t, s, was)
}

func wantChange(t *testing.T, s *store.Store, m *schema.Model, want int64) {
	t.Helper()
	if rev, e := s.Change(m); rev != want || e != api.OK {
		t.Fatalf("Change: %d, %d, want %d", rev, e, want)
	}
	if s.Newest() != want {
		t.Fatalf("the newest is %d, want %d", s.Newest(), want)
	}
}

func wantNoChange(t *testing.T, s *store.Store, m *schema.Model, want api.Errno) {
	t.Helper()
	was := whole(s)
	if rev, e := s.Change(m); rev != 0 || e != want {
		t.Errorf("Change: %d, %d, want %d", rev, e, want)
	}
	wantWhole(t, s, was)
}

func snapOf(t *testing.T, s *store.Store, rev int64) *store.Snap {
	t.Helper()
	snap, e := s.Snap(rev)
	if snap == nil || e != api.OK || snap.Rev() != rev {
		t.Fatalf("Snap(%d): %v, %d", rev, snap, e)
	}
	return snap
}

func wantNoSnap(t *testing.T, s *store.Store, rev int64, want api.Errno) {
	t.Helper()
	if snap, e := s.Snap(rev); snap != nil || e != want {
		t.Errorf("Snap(%d): %v, %d, want %d", rev, snap, e, want)
	}
}

func wantCommit(t *testing.T, s *store.Store, rev int64, want ...api.Change) {
	t.Helper()
	c, e := s.Commit(rev)
	if e != api.OK || c.Rev != rev || c.Kind != api.CommitWrite || wholeChanges(c.Changes) != wholeChanges(want) || !isNoSchema(c.Schema) {
		t.Errorf("Commit(%d): %s, %d, want %s", rev, show(c), e, show(want))
	}
}

func wantNoCommit(t *testing.T, s *store.Store, rev int64, want api.Errno) {
	t.Helper()
	c, e := s.Commit(rev)
	if e != want || c.Rev != 0 || c.Kind != 0 || c.Changes != nil || !isNoSchema(c.Schema) {
		t.Errorf("Commit(%d): %s, %d, want %d", rev, show(c), e, want)
	}
}

func isNoSchema(s api.Schema) bool { return len(s.Types) == 0 && len(s.Conds) == 0 }

func wantKept(t *testing.T, s *store.Store, oldest, newest int64) {
	t.Helper()
	if s.Oldest() != oldest || s.Newest() != newest {
		t.Errorf("from %d to %d, want from %d to %d", s.Oldest(), s.Newest(), oldest, newest)
	}
}

// wantAt asks for the tuples of a revision, by their texts.
func wantAt(t *testing.T, s *store.Store, rev int64, want ...string) {
	t.Helper()
	snap := snapOf(t, s, rev)
	wantTuples(t, "at "+strconv.FormatInt(rev, 10), snap.All(), want...)
	if n := snap.Len(); n != len(want) {
		t.Errorf("Len at %d: %d, want %d", rev, n, len(want))
	}
	for x := range snap.All() {
		if by := slices.Collect(snap.By(x.Subject)); !slices.Contains(texts(by), textOf(x)) {
			t.Errorf("By at %d: %q, without %s", rev, texts(by), textOf(x))
		}
	}
}

func wantTuples(t *testing.T, name string, got iter.Seq[api.Tuple], want ...string) {
	t.Helper()
	wantTexts(t, name, texts(slices.Collect(got)), want)
}

func wantTexts(t *testing.T, name string, got, want []string) {
	t.Helper()
	if !slices.Equal(got, want) {
		t.Errorf("%s: %q, want %q", name, got, want)
	}
}

func texts(l []api.Tuple) []string {
	var all []string
	for _, x := range l {
		all = append(all, textOf(x))
	}
	return all
}

func textOf(x api.Tuple) string {
	s, e := tuples.Text(x)
	if e != api.OK {
		return wholeTuple(x)
	}
	return s
}

// wantRead asks for a page, by its tuples' texts.
func wantRead(t *testing.T, s *store.Store, rev int64, f api.Filter, after api.Tuple, size int, more bool, want ...string) {
	t.Helper()
	l, isMore, e := s.Read(rev, f, after, size)
	wantTexts(t, fmt.Sprintf("Read(%d, %+v, %s, %d)", rev, f, textOf(after), size), texts(l), want)
	if isMore != more || e != api.OK {
		t.Errorf("Read(%d, %+v, %s, %d): more %v, %d", rev, f, textOf(after), size, isMore, e)
	}
}

func wantNoRead(t *testing.T, s *store.Store, rev int64, size int, want api.Errno) {
	t.Helper()
	if l, more, e := s.Read(rev, api.Filter{}, api.Tuple{}, size); l != nil || more || e != want {
		t.Errorf("Read(%d, .., %d): %v, %v, %d, want %d", rev, size, l, more, e, want)
	}
}

// show tells a thing, no longer than one can read.
func show(x any) string {
	s := fmt.Sprintf("%+v", x)
	if len(s) > 2000 {
		return s[:2000] + ".." + strconv.Itoa(len(s))
	}
	return s
}

// whole tells all that a store answers: its limits, what it keeps, and each revision with its neighbours.
func whole(s *store.Store) string {
	var b strings.Builder
	fmt.Fprintln(&b, s.Limits(), s.Oldest(), s.Newest())
	for rev := s.Oldest() - 1; rev <= s.Newest()+1; rev++ {
		snap, e := s.Snap(rev)
		c, f := s.Commit(rev)
		fmt.Fprintln(&b, rev, e, f)
		fmt.Fprintln(&b, c.Rev, c.Kind)
		b.WriteString(wholeChanges(c.Changes) + schemaText(c.Schema) + wholeSnap(snap))
	}
	return b.String()
}

// wholeSnap tells all that a snapshot answers of its tuples, their objects and their subjects.
func wholeSnap(s *store.Snap) string {
	var b strings.Builder
	fmt.Fprintln(&b, s.Rev(), s.Len(), s.Model() == nil)
	b.WriteString(schemaText(s.Model().Schema()))
	for x := range s.All() {
		y, ok := s.Find(x)
		fmt.Fprintln(&b, wholeTuple(x), wholeTuple(y), ok)
		for z := range s.Of(x.Object, x.Rel) {
			fmt.Fprintln(&b, " of", wholeTuple(z))
		}
		for z := range s.By(x.Subject) {
			fmt.Fprintln(&b, " by", wholeTuple(z))
		}
	}
	return b.String()
}

// wholeTuple tells a tuple, whether it may be or not, the bits of its reals too; nil and empty lists are the same.
func wholeTuple(x api.Tuple) string {
	var b strings.Builder
	fmt.Fprintf(&b, "%q %q %q %q", x.Object, x.Rel, x.Subject, x.Cond)
	for _, a := range x.Args {
		fmt.Fprintf(&b, " %q=%d/%v/%d/%x/%q/%q", a.Name, a.Value.Kind, a.Value.Bool, a.Value.Int, math.Float32bits(a.Value.Real), a.Value.Text, a.Value.Texts)
	}
	return b.String()
}

func wholeChanges(l []api.Change) string {
	s := ""
	for _, c := range l {
		s += fmt.Sprintln(c.Kind, wholeTuple(c.Tuple))
	}
	return s
}

func schemaText(s api.Schema) string {
	text, e := syntax.Print(s)
	if e != api.OK {
		return fmt.Sprintf("%d %+v", e, s)
	}
	return text
}

func wantWhole(t *testing.T, s *store.Store, was string) {
	t.Helper()
	if now := whole(s); now != was {
		t.Errorf("the store isn't as it was:\n%s\nbut\n%s", was, now)
	}
}

func seeded(n int64) *rand.Rand { return rand.New(rand.NewSource(n)) }

func object(typ, id string) api.Object { return api.Object{Type: typ, Id: id} }

func subject(typ, id, rel string) api.Subject { return api.Subject{Type: typ, Id: id, Rel: rel} }

func arg(name string, n int64) api.Arg {
	return api.Arg{Name: name, Value: api.Value{Kind: api.ValInt, Int: n}}
}
