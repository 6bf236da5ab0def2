package overlay_test

import (
	"iter"
	"math/rand"
	"testing"

	"latchkey/api"
	"latchkey/overlay"
	"latchkey/store"
)

// pools are what random tuples and questions are made of.

func objectPool() []api.Object {
	return []api.Object{object("doc", "1"), object("doc", "1.5"), object("doc", "2"), object("team", "a"), object("team", "ab"), object("doc", ""), object("", "1"), object("file", "1"), object("user", "1"), object("doc", "*")}
}

func relPool() []string { return []string{"owner", "viewer", "member", "any", "own", ""} }

func subjectPool() []api.Subject {
	return []api.Subject{subject("user", "ann", ""), subject("user", "bob", ""), subject("user", "*", ""), subject("team", "a", "member"), subject("team", "b", "member"), subject("team", "*", ""), subject("team", "a", ""), subject("team", "a", "owner"), subject("", "", ""), subject("bot", "1", ""), subject("team", "*", "member")}
}

func condPool() []api.Tuple {
	return []api.Tuple{
		{}, {}, {}, {Cond: "c"}, {Cond: "d"},
		fact(`d:1#r@u:a with c{at: 7, l: ["x", "y"]}`), fact(`d:1#r@u:a with c{l: []}`), fact(`d:1#r@u:a with d{x: 0.5}`), fact(`d:1#r@u:a with d{x: nan}`),
		fact(`d:1#r@u:a with c{at: "x"}`), fact(`d:1#r@u:a with c{l: 1}`), fact(`d:1#r@u:a with d{x: 1}`), fact(`d:1#r@u:a with c{by: 1}`), fact(`d:1#r@u:a with e`), {Args: []api.Arg{arg("at", 1)}}, {Cond: "c", Args: []api.Arg{arg("b", 1), arg("a", 1)}},
	}
}

// near is one of the first of a list, mostly.
func near[T any](c *rand.Rand, l []T, most int) T {
	if c.Intn(12) > 0 {
		return l[c.Intn(min(most, len(l)))]
	}
	return l[c.Intn(len(l))]
}

func anyTuple(c *rand.Rand) api.Tuple {
	x := near(c, condPool(), 9)
	x.Object = near(c, objectPool(), 5)
	x.Rel = near(c, relPool(), 3)
	x.Subject = near(c, subjectPool(), 6)
	// Mostly of a place that is there.
	if x.Object.Type == "team" && c.Intn(12) > 0 {
		x.Rel = "member"
	}
	return x
}

// anyTuples are tuples that mostly are right, and mostly of keys of their own.
func anyTuples(c *rand.Rand, n int, isRight func(x api.Tuple) bool, met map[key]bool) []api.Tuple {
	var l []api.Tuple
	for range n {
		x := anyTuple(c)
		for isCareless := c.Intn(5) == 0; !isCareless && (!isRight(x) || met[keyOf(x)]); {
			x = anyTuple(c)
		}
		// Now and then one of a key that is met, with another Cond.
		if len(l) > 0 && c.Intn(40) == 0 {
			y := l[c.Intn(len(l))]
			x.Object, x.Rel, x.Subject = y.Object, y.Rel, y.Subject
		}
		if args := condPool()[c.Intn(len(condPool()))]; x.Cond != "" && c.Intn(8) == 0 {
			x.Args = args.Args
		}
		met[keyOf(x)] = true
		l = append(l, x)
	}
	return l
}

// both is a source, and what it is held against.
type both struct {
	*testing.T
	src store.Source
	p   plain
}

func (b both) wantAll() {
	b.Helper()
	if b.src.Len() != len(b.p.facts) || b.src.Model() != b.p.model {
		b.Fatalf("Len: %d, want %d", b.src.Len(), len(b.p.facts))
	}
	b.wantSeq("All", b.src.All(), b.p.sorted(forward, func(api.Tuple) bool { return true }))
	for _, s := range subjectPool() {
		b.wantSeq("By", b.src.By(s), b.p.sorted(backward, func(x api.Tuple) bool { return x.Subject == s }))
	}
	for _, o := range objectPool() {
		for _, rel := range relPool() {
			b.wantSeq("Of", b.src.Of(o, rel), b.p.sorted(forward, func(x api.Tuple) bool { return x.Object == o && x.Rel == rel }))
		}
	}
}

func (b both) wantSeq(name string, got iter.Seq[api.Tuple], want []api.Tuple) {
	b.Helper()
	if l := collect(got); wholeTuples(l) != wholeTuples(want) {
		b.Fatalf("%s: %q, want %q", name, texts(l), texts(want))
	}
}

// over lays more and less over b, and holds what comes of it against the words.
func (b both) over(more, less []api.Tuple) (both, api.Errno) {
	b.Helper()
	o, e := overlay.Over(b.src, more, less)
	p, f := b.p.over(more, less)
	if e != f || (o == nil) != (f != api.OK) {
		b.Fatalf("Over(.., %q, %q): %d, want %d", texts(more), texts(less), e, f)
	}
	if e != api.OK {
		return b, e
	}
	return both{b.T, o, p}, e
}

// wantAsWritten holds an overlay against what the store has behind a write of a touch for each of more and a delete for each of less that is there.
func (b both) wantAsWritten(s *store.Store, was plain, more, less []api.Tuple) {
	b.Helper()
	l := changes(api.ChangeTouch, more...)
	for _, x := range less {
		if _, isThere := was.facts[keyOf(x)]; isThere {
			l = append(l, changes(api.ChangeDelete, x)...)
		}
	}
	wantWrite(b.T, s, l...)
	if got, want := wholeOf(b.src), wholeOf(newest(b.T, s)); got != want {
		b.Fatalf("%s\nbut the store has\n%s", got, want)
	}
}

// P13.1 to P13.3: overlays at random, right and wrong, one over the other: all is as the words say, and as a store has it behind writes of the same; each answer comes up often, of more and of less.
func TestAgainstTheWords(t *testing.T) {
	m := model(t, wideText)
	mores, lesses := map[api.Errno]int{}, map[api.Errno]int{}
	for n := range int64(700) {
		c := seeded(n)
		right := func(x api.Tuple) bool { _, e := plainOf(m, nil).over([]api.Tuple{x}, nil); return e == api.OK }
		mayGo := func(x api.Tuple) bool { return askedOf(m.Schema(), x) == api.OK }
		first := plainOf(m, anyTuples(c, c.Intn(12), right, map[key]bool{}))
		for k, x := range first.facts {
			if !right(x) {
				delete(first.facts, k)
			}
		}
		s := stored(t, m, first.sorted(forward, func(api.Tuple) bool { return true })...)
		b := both{t, newest(t, s), first}
		b.wantAll()
		for range 6 {
			met := map[key]bool{}
			more := anyTuples(c, c.Intn(5), right, met)
			less := anyTuples(c, c.Intn(5), mayGo, met)
			_, e := b.p.over(more, nil)
			mores[e]++
			up, f := b.over(more, less)
			if e == api.OK {
				lesses[f]++
			}
			if f == api.OK {
				up.wantAll()
				up.wantAsWritten(s, b.p, more, less)
			}
			b.wantAll()
			b = up
		}
	}
	for _, e := range []api.Errno{api.OK, api.ErrType, api.ErrId, api.ErrRelation, api.ErrSubject, api.ErrAllowed, api.ErrArgs, api.ErrParam, api.ErrKind, api.ErrTwice} {
		if mores[e] < 10 {
			t.Errorf("of more %d came up %d times", e, mores[e])
		}
	}
	for _, e := range []api.Errno{api.OK, api.ErrType, api.ErrId, api.ErrRelation, api.ErrSubject, api.ErrAllowed, api.ErrTwice} {
		if lesses[e] < 10 {
			t.Errorf("of less %d came up %d times", e, lesses[e])
		}
	}
}
