package holds_test

import (
	"slices"
	"testing"

	"latchkey/api"
	"latchkey/holds"
	"latchkey/overlay"
	"latchkey/store"
	"latchkey/syntax"
	"latchkey/tuples"
)

// told tells a question, for whoever wants to know what went wrong.
func told(src store.Source, s api.Subject, ctx []api.Arg) string {
	text, _ := syntax.Print(src.Model().Schema())
	for x := range src.All() {
		line, _ := tuples.Text(x)
		text += line + "\n"
	}
	line, _ := tuples.Text(api.Tuple{Object: api.Object{Type: "of", Id: "1"}, Rel: "r", Subject: s, Cond: "ctx", Args: ctx})
	return text + line
}

// wantPlain holds all three calls against the words.
func wantPlain(t *testing.T, c *maker, src store.Source, s api.Subject, ctx []api.Arg, came map[string]int) [][]api.Grant {
	t.Helper()
	want := plainOf(src, s, ctx, came)
	got := layers(t, src, s, ctx)
	if !slices.EqualFunc(got, want, slices.Equal) {
		t.Fatalf("%s\nLayers: %v\nwant %v", told(src, s, ctx), got, want)
	}
	if all := of(t, src, s, ctx); !slices.Equal(all, together(want)) {
		t.Fatalf("%s\nOf: %q\nwant %q", told(src, s, ctx), grantTexts(all), grantTexts(together(want)))
	}
	places, objects := src.Model().Places(), objectsOf(src)
	for range 5 {
		g := api.Grant{Object: objects[c.Intn(len(objects))], Rel: places[c.Intn(len(places))].Rel}
		if src.Model().Number(g.Object.Type, g.Rel) < 0 {
			continue
		}
		if yes := has(t, src, s, ctx, g); yes != slices.Contains(together(want), g) {
			t.Fatalf("%s\nHas %s: %v", told(src, s, ctx), grantText(g), yes)
		}
	}
	return want
}

// another is an overlay that has just these tuples, over a source of others: of some of them, some of other conditions, and some more.
func another(t *testing.T, c *maker, src *store.Snap) store.Source {
	t.Helper()
	var under, more, less []api.Tuple
	isOneOf := func(l []api.Tuple, x api.Tuple) bool {
		return slices.ContainsFunc(l, func(y api.Tuple) bool { return tuples.Compare(x, y) == 0 })
	}
	all := slices.Collect(src.All())
	for _, x := range c.facts(src.Model(), 12) {
		if !isOneOf(all, x) {
			less = append(less, x)
			under = append(under, x)
		} else {
			under = append(under, x)
			more = append(more, all[slices.IndexFunc(all, func(y api.Tuple) bool { return tuples.Compare(x, y) == 0 })])
		}
	}
	for _, x := range all {
		switch {
		case isOneOf(under, x):
		case c.isOneOf(2):
			more = append(more, x)
		default:
			under = append(under, x)
		}
	}
	half := len(more) / 2
	low := laid(t, snapWith(t, src.Model(), under), more[:half], less)
	if o := laid(t, low, more[half:], nil); o.Len() == src.Len() {
		return o
	}
	t.Fatal("the overlay has other tuples")
	return nil
}

// P16.1 to P16.3: what is told is what the words say, over random models, tuples, subjects and arguments, whether the tuples are a snapshot's or an overlay's; and all of which the words speak comes up.
func TestAgainstTheWords(t *testing.T) {
	came := map[string]int{}
	for n := range int64(300) {
		c := &maker{Rand: seeded(n), nots: n%3 > 0}
		m := c.model()
		src := snapWith(t, m, c.facts(m, 4+c.Intn(40)))
		over := another(t, c, src)
		if _, isOverlay := over.(*overlay.Overlay); !isOverlay {
			t.Fatal("no overlay")
		}
		all := subjects(m)
		for range 12 {
			s, ctx := all[c.Intn(len(all))], c.args(true)
			for level, l := range wantPlain(t, c, src, s, ctx, came) {
				if len(l) > 0 && level > 0 {
					came[[]string{"", "stratum 1", "stratum 2"}[level]]++
				}
			}
			wantPlain(t, c, over, s, ctx, came)
		}
	}
	for _, name := range []string{"a tuple that doesn't count", "a set that has itself alone", "what is taken away", "the subject itself", "all of the type", "a set", "from", "stratum 1", "stratum 2"} {
		if came[name] < 200 {
			t.Errorf("%s came up %d times", name, came[name])
		}
	}
}

// contains says whether l has all that some has.
func contains(l, some []api.Grant) bool {
	return !slices.ContainsFunc(some, func(g api.Grant) bool { return !slices.Contains(l, g) })
}

// P16.4: the object of each grant is the Object of some tuple, or that of s itself, of a set.
func TestObjectsOfGrants(t *testing.T) {
	count := 0
	for n := range int64(120) {
		c := &maker{Rand: seeded(1<<20 + n), nots: n%3 > 0}
		m := c.model()
		src := snapWith(t, m, c.facts(m, 30))
		ctx := c.args(true)
		for _, s := range subjects(m) {
			for _, g := range of(t, src, s, ctx) {
				isOwn := s == api.Subject{Type: g.Object.Type, Id: g.Object.Id, Rel: g.Rel} || s.Rel != "" && g.Object == api.Object{Type: s.Type, Id: s.Id}
				isTuples := slices.ContainsFunc(slices.Collect(src.All()), func(x api.Tuple) bool { return x.Object == g.Object })
				if !isOwn && !isTuples {
					t.Fatalf("%s\n%s", told(src, s, ctx), grantText(g))
				}
				count++
			}
		}
	}
	if count < 3000 {
		t.Error(count)
	}
}

// P16.4: where nothing is taken away, whoever has Q to x has all that the set x#Q has, and more tuples take nothing from anybody.
func TestWithoutNots(t *testing.T) {
	through, gained := 0, 0
	for n := range int64(120) {
		c := &maker{Rand: seeded(1<<30 + n)}
		m := c.model()
		more := c.facts(m, 40)
		part := slices.Clone(more[:len(more)/2])
		src, wider := snapWith(t, m, part), snapWith(t, m, more)
		ctx := c.args(true)
		for _, s := range subjects(m) {
			l := of(t, src, s, ctx)
			for _, g := range l {
				set := api.Subject{Type: g.Object.Type, Id: g.Object.Id, Rel: g.Rel}
				if set == s {
					continue
				}
				through++
				if sets := of(t, src, set, ctx); !contains(l, sets) {
					t.Fatalf("%s\nhas %q, but %s has %q", told(src, s, ctx), grantTexts(l), subjectText(set), grantTexts(sets))
				}
			}
			more := of(t, wider, s, ctx)
			if !contains(more, l) {
				t.Fatalf("%s\nhas %q, and with more tuples %q", told(src, s, ctx), grantTexts(l), grantTexts(more))
			}
			if len(more) > len(l) {
				gained++
			}
		}
	}
	if through < 2000 || gained < 600 {
		t.Error(through, gained)
	}
}

// P16.4: one that no tuple's Subject is, where none is all of its type either, has nothing; also where something is taken away.
func TestWhoIsNotNamed(t *testing.T) {
	unnamed := 0
	for n := range int64(120) {
		c := &maker{Rand: seeded(1<<40 + n), nots: true}
		m := c.model()
		src := snapWith(t, m, c.facts(m, 12))
		ctx := c.args(true)
		for _, s := range subjects(m) {
			isNamed := slices.ContainsFunc(slices.Collect(src.All()), func(x api.Tuple) bool {
				return x.Subject == s || x.Subject.Type == s.Type && x.Subject.Id == "*"
			})
			if s.Rel != "" || isNamed {
				continue
			}
			unnamed++
			l, e := holds.Of(src, s, ctx)
			if len(l) != 0 || e != api.OK {
				t.Fatalf("%s\n%q, %d", told(src, s, ctx), grantTexts(l), e)
			}
		}
	}
	if unnamed < 400 {
		t.Error(unnamed)
	}
}
