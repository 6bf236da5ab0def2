package routes_test

import (
	"slices"
	"testing"

	"latchkey/api"
	"latchkey/check"
	"latchkey/conds"
	"latchkey/holds"
	"latchkey/overlay"
	"latchkey/routes"
	"latchkey/store"
	"latchkey/tuples"
	"latchkey/values"
)

// another is an overlay that has just these tuples, over a source of others: of some of them, some of other conditions, and some more.
func another(t *testing.T, c *maker, src *store.Snap) store.Source {
	t.Helper()
	var under, more, less []api.Tuple
	isOneOf := func(l []api.Tuple, x api.Tuple) bool {
		return slices.ContainsFunc(l, func(y api.Tuple) bool { return tuples.Compare(x, y) == 0 })
	}
	all := slices.Collect(src.All())
	for _, x := range c.facts(src.Model(), 12) {
		if !isOneOf(all, x) {
			less = append(less, x)
			under = append(under, x)
		} else {
			under = append(under, x)
			more = append(more, all[slices.IndexFunc(all, func(y api.Tuple) bool { return tuples.Compare(x, y) == 0 })])
		}
	}
	for _, x := range all {
		switch {
		case isOneOf(under, x):
		case c.isOneOf(2):
			more = append(more, x)
		default:
			under = append(under, x)
		}
	}
	half := len(more) / 2
	low := laid(t, snapWith(t, src.Model(), under), more[:half], less)
	if o := laid(t, low, more[half:], nil); o.Len() == src.Len() {
		return o
	}
	t.Fatal("the overlay has other tuples")
	return nil
}

// counted are the tuples that count; came counts those whose condition is met, not met and not known.
func counted(src store.Source, ctx []api.Arg, came map[string]int) []api.Tuple {
	var l []api.Tuple
	for x := range src.All() {
		if x.Cond == "" {
			l = append(l, x)
			continue
		}
		c, _ := src.Model().Cond(x.Cond)
		args, _ := values.Merge(x.Args, ctx)
		met, _ := conds.Eval(c, args)
		switch {
		case !met.Known:
			came["not known"]++
		case met.Met:
			came["met"]++
			l = append(l, x)
		default:
			came["not met"]++
		}
	}
	return l
}

// held are the grants that s has, as holds tells them.
func held(t *testing.T, src store.Source, s api.Subject, ctx []api.Arg) map[api.Grant]int {
	t.Helper()
	l, e := holds.Of(src, s, ctx)
	if e != api.OK {
		t.Fatalf("holds.Of(.., %q): %d", s, e)
	}
	all := map[api.Grant]int{}
	for _, g := range l {
		all[g] = 1
	}
	return all
}

// sources are a snapshot of drawn tuples of a drawn model, and an overlay of the same; and arguments.
func sources(t *testing.T, c *maker) ([]store.Source, []api.Arg) {
	t.Helper()
	m := c.model()
	src := snapWith(t, m, c.facts(m, 4+c.Intn(40)))
	over := another(t, c, src)
	if _, isOverlay := over.(*overlay.Overlay); !isOverlay {
		t.Fatal("no overlay")
	}
	return []store.Source{src, over}, c.args(true)
}

// P19.5: the place of each grant that a subject has is one of Could, whatever the source and the arguments.
func TestGrantsAreAtPlacesOfCould(t *testing.T) {
	came := map[string]int{}
	for n := range int64(60) {
		c := &maker{Rand: seeded(1<<40 + n), nots: n%3 > 0}
		both, ctx := sources(t, c)
		for _, src := range both {
			counted(src, ctx, came)
			for _, s := range subjects(src.Model()) {
				l := could(t, src.Model(), s)
				has := held(t, src, s, ctx)
				for g := range has {
					if !slices.Contains(l, api.Place{Type: g.Object.Type, Rel: g.Rel}) {
						t.Fatalf("%s\n%s has %s, but could have %q", told(src), subjectText(s), grantText(g), placeTexts(l))
					}
					came["had"]++
				}
				came["could"] += len(l)
			}
		}
	}
	for _, name := range []string{"met", "not met", "not known", "had", "could"} {
		if came[name] < 100 {
			t.Errorf("%s came up %d times", name, came[name])
		}
	}
}

// P19.5: the same, asked one by one: what check says is had is at a place of Could, also by ones that no tuple names.
func TestAnswersAreAtPlacesOfCould(t *testing.T) {
	yes, no := 0, 0
	for n := range int64(40) {
		c := &maker{Rand: seeded(1<<41 + n), nots: n%3 > 0}
		both, ctx := sources(t, c)
		for _, src := range both {
			for _, s := range subjectsOf(src.Model(), "1", "nobody") {
				l := could(t, src.Model(), s)
				for _, p := range src.Model().Places() {
					for _, id := range []string{"1", "2", "3", "nobody"} {
						q := api.Query{Object: api.Object{Type: p.Type, Id: id}, Rel: p.Rel, Subject: s, Ctx: ctx, Budget: check.Bound(src.Model().Size(), src.Len())}
						v, e := check.Ask(src, q)
						if e != api.OK {
							t.Fatal(e)
						}
						if !v.Held {
							no++
							continue
						}
						yes++
						if !slices.Contains(l, p) {
							t.Fatalf("%s\n%s has %s of %s, but could have %q", told(src), subjectText(s), p.Rel, id, placeTexts(l))
						}
					}
				}
			}
		}
	}
	if yes < 1000 || no < 1000 {
		t.Error(yes, no)
	}
}

// objectOf is whom a tuple names, as an object.
func objectOf(x api.Tuple) api.Object {
	return api.Object{Type: x.Subject.Type, Id: x.Subject.Id}
}

// comesBy says whether s, who has these grants, comes to o by e, by the promise's words. l are the tuples that count.
func comesBy(e api.Edge, o api.Object, s api.Subject, has map[api.Grant]int, l []api.Tuple) bool {
	by := func(rel string, isSo func(x api.Tuple) bool) bool {
		return slices.ContainsFunc(l, func(x api.Tuple) bool { return x.Object == o && x.Rel == rel && isSo(x) })
	}
	hasFrom := func(o api.Object) bool { return has[api.Grant{Object: o, Rel: e.From.Rel}] > 0 }
	switch e.Kind {
	case api.EdgeSame:
		return hasFrom(o)
	case api.EdgeSet:
		return by(e.To.Rel, func(x api.Tuple) bool {
			return x.Subject.Type == e.From.Type && x.Subject.Rel == e.From.Rel && hasFrom(objectOf(x))
		})
	case api.EdgeFrom:
		return by(e.Way, func(x api.Tuple) bool {
			return x.Subject.Type == e.From.Type && x.Subject.Rel == "" && x.Subject.Id != "*" && hasFrom(objectOf(x))
		})
	}
	return by(e.To.Rel, func(x api.Tuple) bool {
		return x.Subject == s || x.Subject.Id == "*" && x.Subject.Type == s.Type && s.Rel == ""
	})
}

// wantAlong asks of an edge that who comes by it has what it leads to, if it is exact; came counts who comes.
func wantAlong(t *testing.T, src store.Source, e api.Edge, s api.Subject, has map[api.Grant]int, l []api.Tuple, came map[string]int) {
	t.Helper()
	for _, id := range []string{"1", "2", "3", "4"} {
		o := api.Object{Type: e.To.Type, Id: id}
		if !comesBy(e, o, s, has, l) {
			continue
		}
		switch isHad := has[api.Grant{Object: o, Rel: e.To.Rel}] > 0; {
		case e.Exact && !isHad:
			t.Fatalf("%s\n%s comes to %s by %s, but hasn't that", told(src), subjectText(s), id, edgeText(e))
		case e.Exact && s.Rel != "":
			came[edgeKinds()[e.Kind]+", a set"]++
		case e.Exact:
			came[edgeKinds()[e.Kind]+", one"]++
		case !isHad:
			came["not exact, and not had"]++
		}
	}
}

// P19.5: who comes by an exact edge has what it leads to, of each of the four kinds; who comes by another one need not.
func TestWhoComesByAnExactEdge(t *testing.T) {
	came := map[string]int{}
	for n := range int64(60) {
		c := &maker{Rand: seeded(1<<42 + n), nots: n%3 > 0}
		both, ctx := sources(t, c)
		for _, src := range both {
			edges := edgesOf(t, src.Model())
			l := counted(src, ctx, came)
			for _, s := range subjects(src.Model()) {
				has := held(t, src, s, ctx)
				for _, e := range edges {
					wantAlong(t, src, e, s, has, l, came)
				}
			}
		}
	}
	for _, name := range []string{"met", "not met", "not known", "direct, one", "direct, a set", "set, one", "set, a set", "same, one", "same, a set", "from, one", "from, a set", "not exact, and not had"} {
		if came[name] < 100 && name != "direct, a set" || came[name] < 1 {
			t.Errorf("%s came up %d times", name, came[name])
		}
	}
}

// P19.5: along an edge whose From is a place, From's types are among To's.
func TestWhoGrows(t *testing.T) {
	same, more := 0, 0
	for n := range int64(150) {
		c := &maker{Rand: seeded(1<<43 + n), nots: n%3 > 0}
		m := c.model()
		types := map[api.Place][]string{}
		for _, p := range m.Places() {
			types[p] = who(t, m, p)
		}
		for _, e := range edgesOf(t, m) {
			from, to := types[e.From], types[e.To]
			if e.Kind == api.EdgeDirect {
				if !slices.Contains(to, e.From.Type) {
					t.Fatalf("%s\n%s", textOf(m), edgeText(e))
				}
				continue
			}
			for _, typ := range from {
				if !slices.Contains(to, typ) {
					t.Fatalf("%s\n%s: %q, %q", textOf(m), edgeText(e), from, to)
				}
			}
			if len(from) == len(to) {
				same++
			} else {
				more++
			}
		}
	}
	if same < 300 || more < 300 {
		t.Error(same, more)
	}
}

// P19.5: a set has its own place, whatever its rewrite says and whether a tuple names it or not.
func TestSetsAreAtTheirOwn(t *testing.T) {
	for n := range int64(50) {
		c := &maker{Rand: seeded(1<<44 + n), nots: true}
		m := c.model()
		l := edgesOf(t, m)
		for _, p := range m.Places() {
			places := could(t, m, api.Subject{Type: p.Type, Id: "x", Rel: p.Rel})
			if !slices.Contains(places, p) {
				t.Fatalf("%s\n%s: %q", textOf(m), placeText(p), placeTexts(places))
			}
			// And where a step leads on from there.
			for _, e := range routes.Out(l, p) {
				if !slices.Contains(places, e.To) {
					t.Fatalf("%s\n%s: %q", textOf(m), edgeText(e), placeTexts(places))
				}
			}
		}
	}
}
