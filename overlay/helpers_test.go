package overlay_test

import (
	"fmt"
	"iter"
	"math"
	"math/rand"
	"slices"
	"strings"
	"testing"

	"latchkey/api"
	"latchkey/overlay"
	"latchkey/schema"
	"latchkey/store"
	"latchkey/syntax"
	"latchkey/tuples"
)

// plainText is the schema of the chapter's examples.
const plainText = "type user type doc relation owner: [user] relation viewer: [user, user with office] cond office(at: int): at > 8"

// wideText has subjects of each kind, under conditions and without, and a relation that allows nothing.
const wideText = `type user
type team
  relation member: [user, team#member, user:* with c, team:*]
type doc
  relation owner: [user]
  relation viewer: [user with c, user:*, team#member with d, user with d]
  relation any: owner or viewer
cond c(at: int, l: texts): at > 3
cond d(x: real): x > 0.5`

// mixed are tuples of wideText whose texts' order is neither Compare's nor Backward's, as they rise by Compare.
func mixed() []string {
	return []string{
		"doc:1#owner@user:ann", "doc:1#owner@user:bob", "doc:1#viewer@team:x#member with d{x: 0.75}", "doc:1#viewer@user:*", "doc:1#viewer@user:ann with c{at: 4, l: [\"b\", \"a\"]}",
		"doc:1.5#owner@user:ann", "doc:10#viewer@team:x#member with d", "doc:10#viewer@user:ann with d", "doc:2#owner@user:ann",
		"team:x#member@team:*", "team:x#member@team:y#member", "team:x#member@user:ann", "team:y#member@team:x#member", "team:y#member@user:* with c",
	}
}

func model(t *testing.T, text string) *schema.Model {
	t.Helper()
	s, spot := syntax.Parse(text)
	m, fault := schema.Of(s)
	if spot.Err != api.OK || fault.Err != api.OK {
		t.Fatalf("%s: %+v, %+v", text, spot, fault)
	}
	return m
}

func fact(s string) api.Tuple {
	x, e := tuples.Parse(s)
	if e != api.OK {
		panic(s)
	}
	return x
}

func facts(texts ...string) []api.Tuple {
	var l []api.Tuple
	for _, s := range texts {
		l = append(l, fact(s))
	}
	return l
}

func object(typ, id string) api.Object { return api.Object{Type: typ, Id: id} }

func subject(typ, id, rel string) api.Subject { return api.Subject{Type: typ, Id: id, Rel: rel} }

func arg(name string, n int64) api.Arg {
	return api.Arg{Name: name, Value: api.Value{Kind: api.ValInt, Int: n}}
}

func changes(kind int, l ...api.Tuple) []api.Change {
	var all []api.Change
	for _, x := range l {
		all = append(all, api.Change{Kind: kind, Tuple: x})
	}
	return all
}

// stored is a store with these tuples, at its newest revision.
func stored(t *testing.T, m *schema.Model, l ...api.Tuple) *store.Store {
	t.Helper()
	s, e := store.New(m, api.Limits{Tuples: api.MaxTuples, Keep: 5}, 0)
	if e != api.OK {
		t.Fatal(e)
	}
	for part := range slices.Chunk(l, api.MaxBatch) {
		wantWrite(t, s, changes(api.ChangeInsert, part...)...)
	}
	return s
}

func wantWrite(t *testing.T, s *store.Store, l ...api.Change) {
	t.Helper()
	if _, e := s.Write(l, nil); e != api.OK {
		t.Fatalf("Write: %d", e)
	}
}

func newest(t *testing.T, s *store.Store) *store.Snap {
	t.Helper()
	snap, e := s.Snap(s.Newest())
	if snap == nil || e != api.OK {
		t.Fatalf("Snap: %d", e)
	}
	return snap
}

// snapOf is a snapshot of these tuples.
func snapOf(t *testing.T, text string, texts ...string) *store.Snap {
	t.Helper()
	return newest(t, stored(t, model(t, text), facts(texts...)...))
}

// exampleSnap has the tuples of the chapter's examples.
func exampleSnap(t *testing.T) *store.Snap {
	t.Helper()
	return snapOf(t, plainText, "doc:1#owner@user:ann", "doc:1#viewer@user:bob", "doc:2#owner@user:ann")
}

func mixedSnap(t *testing.T) *store.Snap {
	t.Helper()
	back := mixed()
	slices.Reverse(back)
	return snapOf(t, wideText, append(back[5:], back[:5]...)...)
}

func laid(t *testing.T, src store.Source, more, less []api.Tuple) *overlay.Overlay {
	t.Helper()
	o, e := overlay.Over(src, more, less)
	if o == nil || e != api.OK {
		t.Fatalf("Over(.., %q, %q): %v, %d", texts(more), texts(less), o, e)
	}
	return o
}

// wantRefused asks for an error, with nothing beside it, and a source that answers all as it did.
func wantRefused(t *testing.T, src store.Source, want api.Errno, more, less []api.Tuple) {
	t.Helper()
	was := wholeOf(src)
	if o, e := overlay.Over(src, more, less); o != nil || e != want {
		t.Errorf("Over(.., %q, %q): %v, %d, want %d", texts(more), texts(less), o != nil, e, want)
	}
	wantWhole(t, src, was)
}

// wantHas asks a source from all sides for just these tuples, which rise by Compare.
func wantHas(t *testing.T, src store.Source, want ...string) {
	t.Helper()
	wantTuples(t, "All", src.All(), want...)
	if src.Len() != len(want) {
		t.Errorf("Len: %d, want %d of %q", src.Len(), len(want), want)
	}
	pick := func(is func(x api.Tuple) bool) []string {
		var l []string
		for _, s := range want {
			if is(fact(s)) {
				l = append(l, s)
			}
		}
		return l
	}
	for _, s := range append(want, mixed()...) {
		x := fact(s)
		wantTuples(t, "Of "+s, src.Of(x.Object, x.Rel), pick(func(y api.Tuple) bool { return y.Object == x.Object && y.Rel == x.Rel })...)
		wantTuples(t, "By "+s, src.By(x.Subject), pick(func(y api.Tuple) bool { return y.Subject == x.Subject })...)
	}
}

func wantTuples(t *testing.T, name string, got iter.Seq[api.Tuple], want ...string) {
	t.Helper()
	if l := texts(slices.Collect(got)); !slices.Equal(l, want) {
		t.Errorf("%s: %q, want %q", name, l, want)
	}
}

func texts(l []api.Tuple) []string {
	var all []string
	for _, x := range l {
		all = append(all, textOf(x))
	}
	return all
}

func textOf(x api.Tuple) string {
	s, e := tuples.Text(x)
	if e != api.OK {
		return wholeTuple(x)
	}
	return s
}

// wholeTuple tells a tuple, whether it may be or not, the bits of its reals too; nil and empty lists are the same.
func wholeTuple(x api.Tuple) string {
	var b strings.Builder
	fmt.Fprintf(&b, "%q %q %q %q", x.Object, x.Rel, x.Subject, x.Cond)
	for _, a := range x.Args {
		fmt.Fprintf(&b, " %q=%d/%v/%d/%x/%q/%q", a.Name, a.Value.Kind, a.Value.Bool, a.Value.Int, math.Float32bits(a.Value.Real), a.Value.Text, a.Value.Texts)
	}
	return b.String()
}

func wholeTuples(l []api.Tuple) string {
	var b strings.Builder
	for _, x := range l {
		fmt.Fprintln(&b, wholeTuple(x))
	}
	return b.String()
}

// wholeOf tells all that a source answers of its tuples, their objects and their subjects.
func wholeOf(src store.Source) string {
	var b strings.Builder
	text, e := syntax.Print(src.Model().Schema())
	fmt.Fprintln(&b, src.Len(), text, e)
	for x := range src.All() {
		fmt.Fprintln(&b, wholeTuple(x))
		fmt.Fprint(&b, "of\n", wholeTuples(slices.Collect(src.Of(x.Object, x.Rel))))
		fmt.Fprint(&b, "by\n", wholeTuples(slices.Collect(src.By(x.Subject))))
	}
	return b.String()
}

func wantWhole(t *testing.T, src store.Source, was string) {
	t.Helper()
	if now := wholeOf(src); now != was {
		t.Errorf("the source isn't as it was:\n%s\nbut\n%s", was, now)
	}
}

func seeded(n int64) *rand.Rand { return rand.New(rand.NewSource(n)) }
