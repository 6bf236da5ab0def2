package store_test

import (
	"fmt"
	"iter"
	"slices"
	"testing"

	"latchkey/api"
	"latchkey/store"
	"latchkey/tuples"
)

// mixed are tuples whose texts' order is neither Compare's nor Backward's, as they rise by Compare.
func mixed() []string {
	return []string{
		"doc:1#owner@user:ann", "doc:1#owner@user:bob", "doc:1#viewer@team:x#member with d{x: 0.75}", "doc:1#viewer@user:*", "doc:1#viewer@user:ann with c{at: 4, l: [\"b\", \"a\"]}",
		"doc:1.5#owner@user:ann", "doc:10#viewer@team:x#member with d", "doc:10#viewer@user:ann with d", "doc:2#owner@user:ann",
		"team:x#member@team:*", "team:x#member@team:y#member", "team:x#member@user:ann", "team:y#member@team:x#member", "team:y#member@user:* with c",
	}
}

func mixedStore(t *testing.T) *store.Store {
	t.Helper()
	back := mixed()
	slices.Reverse(back)
	return roomy(t, wideText, append(back[5:], back[:5]...)...)
}

// P12.7: All rises by Compare, By by Backward, Of by Compare; of what is there, and of what isn't.
func TestWalks(t *testing.T) {
	s := snapOf(t, mixedStore(t), 1)
	l := mixed()
	pick := func(numbers ...int) []string {
		var all []string
		for _, n := range numbers {
			all = append(all, l[n])
		}
		return all
	}
	wantTuples(t, "All", s.All(), l...)
	if s.Len() != len(l) || s.Rev() != 1 {
		t.Errorf("%d tuples at %d", s.Len(), s.Rev())
	}
	for _, c := range []struct {
		o    api.Object
		rel  string
		want []string
	}{
		{object("doc", "1"), "owner", pick(0, 1)}, {object("doc", "1"), "viewer", pick(2, 3, 4)}, {object("doc", "1.5"), "owner", pick(5)}, {object("doc", "10"), "viewer", pick(6, 7)}, {object("doc", "2"), "owner", pick(8)}, {object("team", "x"), "member", pick(9, 10, 11)}, {object("team", "y"), "member", pick(12, 13)},
		{object("doc", "1"), "", nil}, {object("doc", "1"), "own", nil}, {object("doc", "1"), "owners", nil}, {object("doc", "1"), "any", nil}, {object("doc", "10"), "owner", nil}, {object("doc", ""), "owner", nil}, {object("", "1"), "owner", nil}, {object("doc", "0"), "owner", nil}, {object("doc", "3"), "owner", nil}, {object("", ""), "", nil}, {object("zzz", "\xff"), "\xff", nil}, {object("do", "c1"), "owner", nil}, {object("team", "z"), "member", nil}, {object("user", "ann"), "owner", nil},
	} {
		wantTuples(t, fmt.Sprint("Of ", c.o, c.rel), s.Of(c.o, c.rel), c.want...)
	}
	for _, c := range []struct {
		sub  api.Subject
		want []string
	}{
		{subject("user", "ann", ""), pick(0, 4, 5, 7, 8, 11)}, {subject("user", "bob", ""), pick(1)}, {subject("user", "*", ""), pick(3, 13)}, {subject("team", "x", "member"), pick(2, 6, 12)}, {subject("team", "y", "member"), pick(10)}, {subject("team", "*", ""), pick(9)},
		{subject("user", "", ""), nil}, {subject("", "ann", ""), nil}, {subject("team", "x", ""), nil}, {subject("team", "x", "owner"), nil}, {subject("user", "ann", "member"), nil}, {subject("", "", ""), nil}, {subject("user", "an", ""), nil}, {subject("user", "anna", ""), nil}, {subject("a", "a", "a"), nil}, {subject("zz", "z", "z"), nil}, {subject("\xff", "\xff", "\xff"), nil},
	} {
		wantTuples(t, fmt.Sprint("By ", c.sub), s.By(c.sub), c.want...)
	}
}

// P12.7: By goes by the object ahead of the relation, so that sets and objects of several types come as Backward says.
func TestByIsBackward(t *testing.T) {
	s := roomy(t, "type a relation r: [u] relation q: [u] relation z: [u, u:*] type b relation q: [u] type u", "b:1#q@u:x", "a:2#q@u:x", "a:1#z@u:x", "a:1#r@u:x", "a:10#q@u:x", "a:1#q@u:y", "a:1#z@u:*", "a:2#r@u:x")
	snap := snapOf(t, s, 1)
	wantTuples(t, "By", snap.By(subject("u", "x", "")), "a:1#r@u:x", "a:1#z@u:x", "a:10#q@u:x", "a:2#q@u:x", "a:2#r@u:x", "b:1#q@u:x")
	wantTuples(t, "By", snap.By(subject("u", "*", "")), "a:1#z@u:*")
	l := slices.Collect(snap.By(subject("u", "x", "")))
	if !slices.IsSortedFunc(l, tuples.Backward) {
		t.Errorf("%q", texts(l))
	}
}

// P12.7: Find goes by the key alone; of what isn't there it tells the empty tuple.
func TestFind(t *testing.T) {
	s := snapOf(t, mixedStore(t), 1)
	for _, text := range mixed() {
		x := fact(text)
		for _, y := range []api.Tuple{x, keyAlone(x), {Object: x.Object, Rel: x.Rel, Subject: x.Subject, Cond: "zzz", Args: []api.Arg{arg("z", 1), {}}}} {
			if got, ok := s.Find(y); !ok || wholeTuple(got) != wholeTuple(x) {
				t.Errorf("Find(%s): %s, %v", text, wholeTuple(got), ok)
			}
		}
		for i := range 6 {
			y := x
			*[]*string{&y.Object.Type, &y.Object.Id, &y.Rel, &y.Subject.Type, &y.Subject.Id, &y.Subject.Rel}[i] += "\x00"
			if got, ok := s.Find(y); ok || wholeTuple(got) != wholeTuple(api.Tuple{}) || got.Args != nil {
				t.Errorf("Find(%s): %s, %v", wholeTuple(y), wholeTuple(got), ok)
			}
		}
	}
	if got, ok := s.Find(api.Tuple{}); ok || wholeTuple(got) != wholeTuple(api.Tuple{}) {
		t.Errorf("%s, %v", wholeTuple(got), ok)
	}
}

// P12.7: a snapshot never changes, though its revision be gone, whatever is written behind it; and so does a walk that was given ahead.
func TestSnapsOutlive(t *testing.T) {
	s := made(t, wideText, api.Limits{Tuples: 1000, Keep: 2}, 0)
	type taken struct {
		snap *store.Snap
		was  string
		walk iter.Seq[api.Tuple]
		l    []string
	}
	var all []taken
	take := func() {
		snap := snapOf(t, s, s.Newest())
		all = append(all, taken{snap, wholeSnap(snap), snap.All(), texts(slices.Collect(snap.All()))})
	}
	take()
	for i, text := range mixed() {
		wantWrite(t, s, int64(2*i+1), in(text))
		take()
		wantWrite(t, s, int64(2*i+2), touch("doc:0#owner@user:u"))
		take()
	}
	wantWrite(t, s, 29, touch("doc:1#viewer@user:ann with d"))
	take()
	for i, text := range mixed() {
		wantWrite(t, s, int64(30+i), out(text))
		take()
	}
	wantWrite(t, s, 44, out("doc:0#owner@user:u"))
	wantChange(t, s, model(t, "type nothing"), 45)
	s.Trim(45)
	for _, x := range all {
		if now := wholeSnap(x.snap); now != x.was {
			t.Errorf("a snapshot has changed:\n%s\nbut\n%s", x.was, now)
		}
		wantTuples(t, "a walk", x.walk, x.l...)
	}
	wantNoSnap(t, s, 44, api.ErrGone)
}

// Sequences: walks are left early, begun again, and gone through within one another.
func TestWalksLeftAndBegunAgain(t *testing.T) {
	s := mixedStore(t)
	snap := snapOf(t, s, 1)
	for name, walk := range map[string]iter.Seq[api.Tuple]{
		"All": snap.All(), "Of": snap.Of(object("doc", "1"), "viewer"), "By": snap.By(subject("user", "ann", "")), "nothing": snap.Of(object("doc", "7"), "viewer"),
	} {
		want := texts(slices.Collect(walk))
		for n := range len(want) + 1 {
			var got []string
			for x := range walk {
				if len(got) == n {
					break
				}
				got = append(got, textOf(x))
			}
			wantTexts(t, name+" left early", got, want[:n])
		}
		for range 2 {
			wantTuples(t, name+" again", walk, want...)
		}
		var outer []string
		for x := range walk {
			outer = append(outer, textOf(x))
			wantTuples(t, name+" within itself", walk, want...)
			for range walk {
				break
			}
		}
		wantTexts(t, name+" around itself", outer, want)
	}
}

// Sequences: what is written while a walk is under way doesn't show in it.
func TestWritesWithinAWalk(t *testing.T) {
	s := mixedStore(t)
	snap := snapOf(t, s, 1)
	walk := snap.All()
	var got []string
	for x := range walk {
		got = append(got, textOf(x))
		wantWrite(t, s, s.Newest()+1, api.Change{Kind: api.ChangeDelete, Tuple: x})
		if e := s.Trim(s.Newest()); e != api.OK {
			t.Fatal(e)
		}
	}
	wantTexts(t, "the walk", got, mixed())
	wantAt(t, s, s.Newest())
	wantTuples(t, "the walk again", walk, mixed()...)
	wantTuples(t, "another one", snap.All(), mixed()...)
}

// Ways: a snapshot stands behind Source, and answers as it does by itself.
func TestSnapIsASource(t *testing.T) {
	snap := snapOf(t, mixedStore(t), 1)
	var src store.Source = snap
	wantTuples(t, "All", src.All(), mixed()...)
	wantTuples(t, "Of", src.Of(object("doc", "2"), "owner"), "doc:2#owner@user:ann")
	wantTuples(t, "By", src.By(subject("team", "*", "")), "team:x#member@team:*")
	if src.Len() != len(mixed()) || schemaText(src.Model().Schema()) != schemaText(model(t, wideText).Schema()) {
		t.Errorf("%d, %s", src.Len(), schemaText(src.Model().Schema()))
	}
}

// P12.7: the model of a snapshot answers all as the one that came in.
func TestSnapsModel(t *testing.T) {
	m := model(t, wideText)
	s, _ := store.New(m, api.Limits{Tuples: 5, Keep: 5}, 0)
	wantWrite(t, s, 1, in(o))
	for rev := range int64(2) {
		got := snapOf(t, s, rev).Model()
		if schemaText(got.Schema()) != schemaText(m.Schema()) || !slices.Equal(got.Places(), m.Places()) || !slices.Equal(got.Arcs(), m.Arcs()) || got.Size() != m.Size() || got.Number("doc", "any") != m.Number("doc", "any") || got.Stratum(2) != m.Stratum(2) {
			t.Errorf("another model at %d", rev)
		}
		if c, ok := got.Cond("c"); !ok || c.Name != "c" {
			t.Errorf("%+v, %v", c, ok)
		}
	}
}
