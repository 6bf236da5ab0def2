package store_test

import (
	"fmt"
	"math"
	"runtime"
	"slices"
	"sync"
	"testing"

	"latchkey/api"
	"latchkey/store"
)

// wideTuple has lists with something in the room behind their ends.
func wideTuple(s string) api.Tuple {
	x := fact(s)
	x.Args = withRoom(x.Args, arg("behind", 1))
	for i := range x.Args {
		x.Args[i].Value.Texts = withRoom(x.Args[i].Value.Texts, "behind")
	}
	return x
}

func withRoom[T any](l []T, behind T) []T {
	return append(append(make([]T, 0, len(l)+2), l...), behind, behind)[:len(l)]
}

// behindToo tells all that stands in a tuple's lists and in the room behind them.
func behindToo(x api.Tuple) string {
	s := wholeTuple(x)
	for _, a := range x.Args[:cap(x.Args)] {
		s += fmt.Sprintf("%q %d %q", a.Name, a.Value.Int, a.Value.Texts[:cap(a.Value.Texts)])
	}
	return s
}

// scrawl writes all over a tuple's lists and the room behind them.
func scrawl(x api.Tuple) {
	for i := range x.Args[:cap(x.Args)] {
		a := &x.Args[:cap(x.Args)][i]
		l := a.Value.Texts[:cap(a.Value.Texts)]
		for k := range l {
			l[k] = "scrawl"
		}
		*a = api.Arg{Name: "scrawl"}
	}
}

func scrawlChanges(l []api.Change) {
	for i := range l[:cap(l)] {
		scrawl(l[:cap(l)][i].Tuple)
		l[:cap(l)][i] = api.Change{Kind: 9, Tuple: fact("scrawl:s#s@s:s")}
	}
}

const listed = `doc:1#viewer@user:ann with c{at: 4, l: ["b", "a", ""]}`

func wideChanges() []api.Change {
	l := []api.Change{
		{Kind: api.ChangeInsert, Tuple: wideTuple(listed)},
		{Kind: api.ChangeTouch, Tuple: wideTuple(`doc:2#viewer@user:ann with c{l: ["b"]}`)},
		{Kind: api.ChangeInsert, Tuple: wideTuple(o)},
		{Kind: api.ChangeTouch, Tuple: wideTuple(`team:x#member@user:* with c{at: 1, l: []}`)},
	}
	return withRoom(l, in("doc:9#owner@user:behind"))
}

func allBehindToo(l []api.Change) string {
	s := ""
	for _, c := range l[:cap(l)] {
		s += fmt.Sprintln(c.Kind, behindToo(c.Tuple))
	}
	return s
}

// DOC.md, Memory: no list that comes in is written, nor the room behind its end, nor is that room read, whatever is answered.
func TestNothingIsWritten(t *testing.T) {
	s := made(t, wideText, api.Limits{Tuples: 10, Keep: 10}, 0)
	l, pres := wideChanges(), withRoom([]api.Pre{mustNot(api.Filter{Cond: "d"})}, must(api.Filter{Rel: "behind"}))
	x := wideTuple(listed)
	was := allBehindToo(l) + behindToo(x) + fmt.Sprint(pres[:3])
	if rev, e := s.Write(l, pres); rev != 1 || e != api.OK {
		t.Fatalf("%d, %d", rev, e)
	}
	s.Write(l, pres)
	s.Write(l[:0], pres)
	s.Write(append(l[:1:1], l[0]), nil)
	snap := snapOf(t, s, 1)
	snap.Find(x)
	s.Read(1, api.Filter{}, x, 1)
	d := api.Change{Kind: api.ChangeDelete, Tuple: x}
	if rev, e := s.Write([]api.Change{d}, nil); rev != 3 || e != api.OK {
		t.Fatalf("%d, %d", rev, e)
	}
	if now := allBehindToo(l) + behindToo(x) + fmt.Sprint(pres[:3]); now != was {
		t.Errorf("%s\nbut\n%s", was, now)
	}
}

// DOC.md, Memory: what came in isn't kept: written over behind the call, it shows nowhere.
func TestWhatComesInIsForgotten(t *testing.T) {
	s := made(t, wideText, api.Limits{Tuples: 10, Keep: 10}, 0)
	l := wideChanges()
	want := wholeChanges(l)
	wantWrite(t, s, 1, l...)
	was := whole(s)
	walk := snapOf(t, s, 1).All()
	told := texts(slices.Collect(walk))
	// Of Of, By and Find, too, what was asked for may be written over.
	x := wideTuple(listed)
	found, _ := snapOf(t, s, 1).Find(x)
	scrawl(x)
	scrawlChanges(l)
	wantWhole(t, s, was)
	wantTuples(t, "the walk", walk, told...)
	if c, _ := s.Commit(1); wholeChanges(c.Changes) != want {
		t.Errorf("%s\nbut\n%s", want, wholeChanges(c.Changes))
	}
	if textOf(found) != listed {
		t.Errorf("%s", textOf(found))
	}
	// A schema that was handed to schema.Of is the model's own already.
	m := model(t, wideText+" type more")
	wantChange(t, s, m, 2)
	was = whole(s)
	scrawlSchema(m.Schema())
	wantWhole(t, s, was)
}

func scrawlSchema(s api.Schema) {
	for i := range s.Types {
		for k := range s.Types[i].Relations {
			for n := range s.Types[i].Relations[k].Rewrite {
				clear(s.Types[i].Relations[k].Rewrite[n].Allow)
			}
			clear(s.Types[i].Relations[k].Rewrite)
		}
		clear(s.Types[i].Relations)
	}
	clear(s.Types)
	for i := range s.Conds {
		clear(s.Conds[i].Params)
		clear(s.Conds[i].Expr)
	}
	clear(s.Conds)
}

// answers are all ways in which a store tells tuples, each of which tells at least one with lists.
func answers(s *store.Store, snap *store.Snap) map[string]func() []api.Tuple {
	return map[string]func() []api.Tuple{
		"Find":  func() []api.Tuple { x, _ := snap.Find(fact(listed)); return []api.Tuple{x} },
		"All":   func() []api.Tuple { return slices.Collect(snap.All()) },
		"Of":    func() []api.Tuple { return slices.Collect(snap.Of(object("doc", "1"), "viewer")) },
		"By":    func() []api.Tuple { return slices.Collect(snap.By(subject("user", "ann", ""))) },
		"Read":  func() []api.Tuple { l, _, _ := s.Read(1, api.Filter{Cond: "c"}, api.Tuple{}, 9); return l },
		"Read1": func() []api.Tuple { l, _, _ := s.Read(1, api.Filter{Cond: "c"}, api.Tuple{}, 1); return l },
		"Commit": func() []api.Tuple {
			var l []api.Tuple
			c, _ := s.Commit(1)
			for _, x := range c.Changes {
				l = append(l, x.Tuple)
			}
			return l
		},
	}
}

// DOC.md, Memory: what is answered is the caller's own, the room behind it too: what is written there shows neither in the store, nor in another answer, nor in another list of the same one.
func TestAnswersAreTheCallers(t *testing.T) {
	s := made(t, wideText, api.Limits{Tuples: 10, Keep: 10}, 0)
	wantWrite(t, s, 1, wideChanges()...)
	wantWrite(t, s, 2)
	snap := snapOf(t, s, 1)
	was := whole(s)
	for name, ask := range answers(s, snap) {
		one, two := ask(), ask()
		want := make([]string, len(one))
		for i, x := range one {
			want[i] = wholeTuple(x)
		}
		if len(one) == 0 || !slices.ContainsFunc(one, func(x api.Tuple) bool { return len(x.Args) > 0 }) {
			t.Fatalf("%s tells too little: %q", name, want)
		}
		for i, x := range one {
			scrawl(x)
			for k := i + 1; k < len(one); k++ {
				if wholeTuple(one[k]) != want[k] {
					t.Errorf("%s: what was written into %d shows in %d", name, i, k)
				}
			}
		}
		clear(one[:cap(one)])
		for i, x := range two {
			if wholeTuple(x) != want[i] {
				t.Errorf("%s: what was written shows in another answer", name)
			}
		}
		for i, x := range ask() {
			if wholeTuple(x) != want[i] {
				t.Errorf("%s: what was written shows in the next answer", name)
			}
		}
		wantWhole(t, s, was)
	}
	c, _ := s.Commit(1)
	scrawlChanges(c.Changes)
	wantWhole(t, s, was)
}

// DOC.md, Memory: within one tuple the lists have nothing in common, either.
func TestListsOfOneTuple(t *testing.T) {
	s := roomy(t, "type u type d relation r: [u with c] cond c(a: texts, b: texts, e: texts): true", `d:1#r@u:x with c{a: ["p", "q"], b: ["r"], e: []}`)
	for i := range 3 {
		x, _ := snapOf(t, s, 1).Find(fact("d:1#r@u:x"))
		l := x.Args[i].Value.Texts
		for k := range l[:cap(l)] {
			l[:cap(l)][k] = "scrawl"
		}
		if grown := append(l, "more", "more"); len(grown) != len(l)+2 {
			t.Fatal(grown)
		}
		for k, want := range []string{"[p q]", "[r]", "[]"} {
			if got := fmt.Sprint(x.Args[k].Value.Texts); k != i && got != want {
				t.Errorf("what was written into %d shows in %d: %s", i, k, got)
			}
		}
	}
}

// DOC.md, Memory: the schema of a commit is the caller's own, and so is that of a snapshot's model.
func TestSchemasAreTheCallers(t *testing.T) {
	s := made(t, plainText, api.Limits{Tuples: 10, Keep: 10}, 0)
	wantChange(t, s, model(t, wideText), 1)
	was := whole(s)
	c, _ := s.Commit(1)
	scrawlSchema(c.Schema)
	scrawlSchema(snapOf(t, s, 1).Model().Schema())
	wantWhole(t, s, was)
	wantWrite(t, s, 2, in(listed))
}

// DOC.md, Memory: nil and empty are the same.
func TestNilAndEmpty(t *testing.T) {
	s := made(t, wideText, api.Limits{Tuples: 10, Keep: 10}, 0)
	x := fact(`doc:1#viewer@user:ann with c{l: []}`)
	x.Args[0].Value.Texts = []string{}
	y := fact(o)
	y.Args = []api.Arg{}
	if rev, e := s.Write([]api.Change{{Kind: api.ChangeInsert, Tuple: x}, {Kind: api.ChangeInsert, Tuple: y}}, []api.Pre{}); rev != 1 || e != api.OK {
		t.Fatalf("%d, %d", rev, e)
	}
	wantAt(t, s, 1, o, `doc:1#viewer@user:ann with c{l: []}`)
	y.Cond = "c"
	wantWrite(t, s, 2, api.Change{Kind: api.ChangeDelete, Tuple: y})
	wantCommit(t, s, 2, out(o))
}

// DOC.md, P1: what is written is told as the same, bit by bit.
func TestValuesStay(t *testing.T) {
	s := roomy(t, "type u type d relation r: [u with c] cond c(b: bool, i: int, l: texts, r: real, t: text): true")
	x := fact(`d:1#r@u:x with c{b: true, i: -9223372036854775808, l: ["", "\xff\x00"], r: 0.1, t: "\x80"}`)
	for _, bits := range []uint32{0, 1 << 31, 1, 0x7f800000, 0xff800000, 0x7fc00000, 0x7fc00001, 0xffffffff} {
		x.Args[3].Value.Real = math.Float32frombits(bits)
		wantWrite(t, s, s.Newest()+1, api.Change{Kind: api.ChangeTouch, Tuple: x})
		got, ok := snapOf(t, s, s.Newest()).Find(x)
		c, _ := s.Commit(s.Newest())
		if !ok || wholeTuple(got) != wholeTuple(x) || wholeTuple(c.Changes[0].Tuple) != wholeTuple(x) {
			t.Errorf("%s, want %s", wholeTuple(got), wholeTuple(x))
		}
	}
}

// DOC.md, Sameness: the same call answers the same, whatever else runs: snapshots that several look at, while the store goes on.
func TestSideBySide(t *testing.T) {
	s := mixedStore(t)
	snap := snapOf(t, s, 1)
	want := wholeSnap(snap)
	var all sync.WaitGroup
	for range 8 {
		all.Go(func() {
			for range 20 {
				if wholeSnap(snap) != want {
					t.Error("an answer differs while others run")
				}
			}
		})
	}
	for i := range 200 {
		wantWrite(t, s, int64(2+i), touch(owners(i%5, 1)[0]), touch("doc:1#viewer@user:ann with d"))
		s.Trim(s.Newest())
	}
	all.Wait()
}

// DOC.md, Sameness: no call leaves a goroutine behind.
func TestNoGoroutines(t *testing.T) {
	was := runtime.NumGoroutine()
	s := mixedStore(t)
	for range 50 {
		whole(s)
		for range snapOf(t, s, 1).All() {
			break
		}
		s.Read(1, api.Filter{Rel: "viewer"}, api.Tuple{}, 1)
	}
	if now := runtime.NumGoroutine(); now > was {
		t.Errorf("%d goroutines, where %d were", now, was)
	}
}

// DOC.md, Sameness: the same calls make the same store.
func TestSameCalls(t *testing.T) {
	of := func() string {
		c := seeded(3)
		b := bothOf(t, model(t, wideText), api.Limits{Tuples: 30, Keep: 50}, 3)
		for range 60 {
			b.write(fitting(c, b.p), nil)
		}
		return whole(b.s)
	}
	if of() != of() {
		t.Error("two stores of the same calls answer otherwise")
	}
}
