package store_test

import (
	"fmt"
	"iter"
	"math/rand"
	"slices"
	"testing"

	"latchkey/api"
	"latchkey/schema"
	"latchkey/store"
)

// pools are what random tuples and questions are made of.

func objectPool() []api.Object {
	return []api.Object{object("doc", "1"), object("doc", "1.5"), object("doc", "2"), object("team", "a"), object("team", "ab"), object("doc", ""), object("", "1"), object("file", "1"), object("user", "1"), object("doc", "*")}
}

func relPool() []string { return []string{"owner", "viewer", "member", "any", "own", ""} }

func subjectPool() []api.Subject {
	return []api.Subject{subject("user", "ann", ""), subject("user", "bob", ""), subject("user", "*", ""), subject("team", "a", "member"), subject("team", "b", "member"), subject("team", "*", ""), subject("team", "a", ""), subject("team", "a", "owner"), subject("", "", ""), subject("bot", "1", ""), subject("team", "*", "member")}
}

func condPool() []api.Tuple {
	return []api.Tuple{
		{}, {}, {}, {Cond: "c"}, {Cond: "d"},
		fact(`d:1#r@u:a with c{at: 7, l: ["x", "y"]}`), fact(`d:1#r@u:a with c{l: []}`), fact(`d:1#r@u:a with d{x: 0.5}`), fact(`d:1#r@u:a with d{x: nan}`),
		fact(`d:1#r@u:a with c{at: "x"}`), fact(`d:1#r@u:a with c{l: 1}`), fact(`d:1#r@u:a with d{x: 1}`), fact(`d:1#r@u:a with c{by: 1}`), fact(`d:1#r@u:a with e`), {Args: []api.Arg{arg("at", 1)}}, {Cond: "c", Args: []api.Arg{arg("b", 1), arg("a", 1)}},
	}
}

// near is one of the first of a list, mostly.
func near[T any](c *rand.Rand, l []T, most int) T {
	if c.Intn(12) > 0 {
		return l[c.Intn(min(most, len(l)))]
	}
	return l[c.Intn(len(l))]
}

func anyTuple(c *rand.Rand) api.Tuple {
	x := near(c, condPool(), 9)
	x.Object = near(c, objectPool(), 5)
	x.Rel = near(c, relPool(), 3)
	x.Subject = near(c, subjectPool(), 6)
	// Mostly of a place that is there.
	if x.Object.Type == "team" && c.Intn(12) > 0 {
		x.Rel = "member"
	}
	return x
}

func anyChange(c *rand.Rand) api.Change {
	return api.Change{Kind: near(c, []int{1, 2, 3, 3, 0, 4, -1}, 4), Tuple: anyTuple(c)}
}

func anyFilter(c *rand.Rand) api.Filter {
	x := anyTuple(c)
	f := api.Filter{Type: x.Object.Type, Id: x.Object.Id, Rel: x.Rel, Subject: x.Subject, Cond: x.Cond}
	for _, s := range []*string{&f.Type, &f.Id, &f.Rel, &f.Subject.Type, &f.Subject.Id, &f.Subject.Rel, &f.Cond} {
		if c.Intn(2) == 0 {
			*s = ""
		}
	}
	return f
}

// fitting are changes of which more than one at a time have a chance: they fit, and mostly are right about what is there.
func fitting(c *rand.Rand, p *plain) []api.Change {
	var l []api.Change
	for range c.Intn(5) {
		x, careless := anyChange(c), c.Intn(10) == 0
		for range 40 {
			_, there := p.last().facts[keyOf(x.Tuple)]
			right := lookedAt(p.last().model, x) == api.OK && (careless || x.Kind == api.ChangeTouch || there == (x.Kind == api.ChangeDelete))
			if right || c.Intn(50) == 0 {
				break
			}
			x = anyChange(c)
		}
		if args := condPool()[c.Intn(len(condPool()))]; x.Tuple.Cond != "" && c.Intn(8) == 0 {
			x.Tuple.Args = args.Args
		}
		l = append(l, x)
	}
	return l
}

func models(t *testing.T) []*schema.Model {
	return []*schema.Model{
		model(t, wideText), model(t, wideText), model(t, plainText),
		model(t, wideText+" cond e(at: int): at > 3"),
		model(t, "type user type team relation member: [user, team#member] type doc relation owner: [user, user with c] relation viewer: [user, user:*, user with c, team#member with d] cond c(at: int, l: texts): at < 3 cond d(x: real): true"),
		model(t, "type user type doc relation owner: [user:*]"),
	}
}

// both is a store and what it is held against, with snapshots that were taken on the way.
type both struct {
	*testing.T
	s     *store.Store
	p     *plain
	snaps map[int64]*store.Snap
}

func bothOf(t *testing.T, m *schema.Model, lim api.Limits, start int64) *both {
	s, e := store.New(m, lim, start)
	if e != api.OK {
		t.Fatal(e)
	}
	return &both{t, s, plainOf(m, lim, start), map[int64]*store.Snap{}}
}

func (b *both) write(l []api.Change, pres []api.Pre) api.Errno {
	b.Helper()
	rev, e := b.s.Write(l, pres)
	if want, f := b.p.write(l, pres); rev != want || e != f {
		b.Fatalf("Write(%s, %s): %d, %d, want %d, %d", show(l), show(pres), rev, e, want, f)
	}
	return e
}

func (b *both) change(m *schema.Model) api.Errno {
	b.Helper()
	rev, e := b.s.Change(m)
	if want, f := b.p.change(m); rev != want || e != f {
		b.Fatalf("Change: %d, %d, want %d, %d", rev, e, want, f)
	}
	return e
}

func (b *both) trim(oldest int64) api.Errno {
	b.Helper()
	e := b.s.Trim(oldest)
	if f := b.p.trim(oldest); e != f {
		b.Fatalf("Trim(%d): %d, want %d", oldest, e, f)
	}
	return e
}

// wantAll holds all that the store answers against the other, and takes snapshots.
func (b *both) wantAll() {
	b.Helper()
	if b.s.Newest() != b.p.newest() || b.s.Oldest() != b.p.oldest || b.s.Limits() != b.p.limits {
		b.Fatalf("from %d to %d, want from %d to %d", b.s.Oldest(), b.s.Newest(), b.p.oldest, b.p.newest())
	}
	for rev := b.p.oldest - 2; rev <= b.p.newest()+2; rev++ {
		r, f := b.p.at(rev)
		snap, e := b.s.Snap(rev)
		if e != f || (snap == nil) != (f != api.OK) {
			b.Fatalf("Snap(%d): %d, want %d", rev, e, f)
		}
		if f == api.OK {
			b.wantSnap(snap, rev, r)
			b.snaps[rev] = snap
		}
		b.wantCommit(rev)
	}
}

// wantSnaps holds the snapshots that were taken on the way against what their revisions were, gone or not.
func (b *both) wantSnaps() {
	b.Helper()
	for rev, snap := range b.snaps {
		b.wantSnap(snap, rev, b.p.revs[rev-b.p.start])
	}
}

func (b *both) wantCommit(rev int64) {
	b.Helper()
	c, e := b.s.Commit(rev)
	want, f := b.p.commit(rev)
	if f != api.OK {
		want = api.Commit{}
	}
	if e != f || c.Rev != want.Rev || c.Kind != want.Kind || wholeChanges(c.Changes) != wholeChanges(want.Changes) || schemaText(c.Schema) != schemaText(want.Schema) {
		b.Fatalf("Commit(%d): %+v, %d, want %+v, %d", rev, c, e, want, f)
	}
}

func (b *both) wantSnap(snap *store.Snap, rev int64, r plainRev) {
	b.Helper()
	if snap.Rev() != rev || snap.Len() != len(r.facts) || schemaText(snap.Model().Schema()) != schemaText(r.model.Schema()) {
		b.Fatalf("the snapshot of %d: %d, %d tuples", rev, snap.Rev(), snap.Len())
	}
	b.wantSeq("All", snap.All(), sorted(r.facts, forward, func(api.Tuple) bool { return true }))
	for _, sub := range subjectPool() {
		b.wantSeq("By", snap.By(sub), sorted(r.facts, backward, func(x api.Tuple) bool { return x.Subject == sub }))
	}
	for _, o := range objectPool() {
		for _, rel := range relPool() {
			b.wantSeq("Of", snap.Of(o, rel), sorted(r.facts, forward, func(x api.Tuple) bool { return x.Object == o && x.Rel == rel }))
			sub := subjectPool()[(int(rev)+len(rel)+len(o.Id))%len(subjectPool())]
			want, there := r.facts[key{o, rel, sub}]
			x, ok := snap.Find(api.Tuple{Object: o, Rel: rel, Subject: sub, Cond: "whatever"})
			if ok != there || wholeTuple(x) != wholeTuple(want) {
				b.Fatalf("Find: %s, %v", wholeTuple(x), ok)
			}
		}
	}
	for k, want := range r.facts {
		x, ok := snap.Find(api.Tuple{Object: k.object, Rel: k.rel, Subject: k.subject, Args: []api.Arg{arg("z", 1)}})
		if !ok || wholeTuple(x) != wholeTuple(want) {
			b.Fatalf("Find: %s, %v, want %s", wholeTuple(x), ok, wholeTuple(want))
		}
	}
}

func (b *both) wantSeq(name string, got iter.Seq[api.Tuple], want []api.Tuple) {
	b.Helper()
	b.wantList(name, slices.Collect(got), want)
}

func (b *both) wantList(name string, got, want []api.Tuple) {
	b.Helper()
	if !slices.EqualFunc(got, want, func(x, y api.Tuple) bool { return wholeTuple(x) == wholeTuple(y) }) {
		b.Fatalf("%s: %q, want %q", name, texts(got), texts(want))
	}
}

func (b *both) wantRead(rev int64, f api.Filter, after api.Tuple, size int) {
	b.Helper()
	got, more, e := b.s.Read(rev, f, after, size)
	want, isMore, g := b.p.read(rev, f, after, size)
	name := fmt.Sprintf("Read(%d, %+v, %s, %d)", rev, f, textOf(after), size)
	b.wantList(name, got, want)
	if more != isMore || e != g {
		b.Fatalf("%s: %v, %d, want %v, %d", name, more, e, isMore, g)
	}
}

// P12.1 to P12.8: writes, changes of the model and trims, right and wrong, at random; behind each of them all is as the words say, of all that is kept and of all snapshots that were ever taken; each answer comes up often.
func TestAgainstTheWords(t *testing.T) {
	ms := models(t)
	met := map[api.Errno]int{}
	calls := map[string]int{}
	for n := range int64(200) {
		c := seeded(n)
		lim := api.Limits{Tuples: 1 + c.Intn(20), Keep: 1 + c.Intn(5)}
		b := bothOf(t, ms[c.Intn(2)], lim, int64(c.Intn(3)))
		if c.Intn(10) == 0 {
			b = bothOf(t, ms[0], lim, api.MaxRev-int64(c.Intn(20)))
		}
		for range 40 {
			switch c.Intn(12) {
			case 0:
				e := b.change(ms[c.Intn(len(ms))])
				met[e]++
				calls[fmt.Sprint("Change ", e == api.OK)]++
			case 1:
				e := b.trim(b.p.oldest - 1 + int64(c.Intn(4)))
				calls[fmt.Sprint("Trim ", e == api.OK)]++
			default:
				l := fitting(c, b.p)
				var pres []api.Pre
				for c.Intn(3) == 0 {
					f := anyFilter(c)
					pres = append(pres, api.Pre{Must: letsSome(b.p.last().facts, f) != (c.Intn(8) == 0), Filter: f})
				}
				e := b.write(l, pres)
				met[e]++
				calls[fmt.Sprint("Write ", e == api.OK)]++
			}
			if c.Intn(8) == 0 {
				b.wantAll()
			}
			for range 4 {
				after := []api.Tuple{{}, anyTuple(c)}[c.Intn(2)]
				b.wantRead(b.p.oldest-1+int64(c.Intn(int(b.p.newest()-b.p.oldest)+3)), anyFilter(c), after, c.Intn(4))
				b.wantRead(b.p.newest(), anyFilter(c), after, 1+c.Intn(4))
			}
		}
		b.wantAll()
		b.wantSnaps()
	}
	for _, e := range []api.Errno{api.OK, api.ErrArg, api.ErrType, api.ErrId, api.ErrRelation, api.ErrSubject, api.ErrAllowed, api.ErrArgs, api.ErrParam, api.ErrKind, api.ErrTwice, api.ErrPre, api.ErrThere, api.ErrAbsent, api.ErrFull, api.ErrEnd, api.ErrBreaks} {
		if met[e] < 10 {
			t.Errorf("%d came up %d times", e, met[e])
		}
	}
	for _, call := range []string{"Change true", "Change false", "Trim true", "Trim false", "Write true", "Write false"} {
		if calls[call] < 50 {
			t.Errorf("%s came up %d times", call, calls[call])
		}
	}
}
