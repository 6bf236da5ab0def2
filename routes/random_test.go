package routes_test

import (
	"slices"
	"strings"
	"testing"

	"latchkey/api"
	"latchkey/ident"
	"latchkey/routes"
	"latchkey/schema"
	"latchkey/syntax"
)

// P19.1: the edges of drawn models are just those that the chapter's Words say, rising, each once.
func TestEdgesAgainstTheWords(t *testing.T) {
	came := map[string]int{}
	for n := range int64(400) {
		c := &maker{Rand: seeded(n), nots: n%3 > 0}
		m := c.model()
		want := plainEdges(m, came)
		l := edgesOf(t, m)
		if !slices.Equal(l, want) {
			t.Fatalf("%s\n%s\nwant\n%s", textOf(m), strings.Join(edgeTexts(l), "\n"), strings.Join(edgeTexts(want), "\n"))
		}
		for i, e := range l {
			came[edgeKinds()[e.Kind]]++
			if e.Exact {
				came[edgeKinds()[e.Kind]+" exact"]++
			}
			if i > 0 && risingEdges(l[i-1], e) >= 0 {
				t.Fatalf("%s\n%s ahead of %s", textOf(m), edgeText(l[i-1]), edgeText(e))
			}
		}
	}
	for _, name := range []string{"direct", "set", "same", "from", "direct exact", "set exact", "same exact", "from exact", "made twice", "at once and not", "taken in a first kid", "taken in a second kid", "and above or", "or above and", "differ in their Cond", "all beside plain", "taken away alone", "a way to several, and to some without"} {
		if came[name] < 40 {
			t.Errorf("%s came up %d times", name, came[name])
		}
	}
}

// P19.2: of a model's edges each is in the Into of its To and in the Out of its From.
func TestListsOfModels(t *testing.T) {
	for n := range int64(80) {
		c := &maker{Rand: seeded(1<<20 + n), nots: n%3 > 0}
		m := c.model()
		l := edgesOf(t, m)
		var into, out []api.Edge
		for _, p := range m.Places() {
			into = append(into, routes.Into(l, p)...)
			out = append(out, routes.Out(l, p)...)
		}
		for _, typ := range m.Schema().Types {
			into = append(into, routes.Into(l, api.Place{Type: typ.Name})...)
			out = append(out, routes.Out(l, api.Place{Type: typ.Name})...)
		}
		for _, all := range [][]api.Edge{into, out} {
			slices.SortFunc(all, risingEdges)
			if !slices.Equal(all, l) {
				t.Fatalf("%s\n%s", textOf(m), strings.Join(edgeTexts(all), "\n"))
			}
		}
	}
}

// wrongSubjects are some that may be, and some that may not, of types and relations that models may have.
func wrongSubjects() []api.Subject {
	var l []api.Subject
	for _, typ := range []string{"user", "doc", "box", "team", "bot", "", "p"} {
		for _, id := range []string{"1", "*", ""} {
			for _, rel := range []string{"", "w", "p", "q", "v", "x", "*"} {
				l = append(l, api.Subject{Type: typ, Id: id, Rel: rel})
			}
		}
	}
	return l
}

// couldHave says whether that is one, or a set, of m.
func couldHave(m *schema.Model, s api.Subject) bool {
	for _, t := range m.Schema().Types {
		isOf := t.Name == s.Type && (s.Rel == "" || slices.ContainsFunc(t.Relations, func(r api.Relation) bool { return r.Name == s.Rel }))
		if kind := ident.Kind(s); isOf && (kind == api.SubOne || kind == api.SubSet) {
			return true
		}
	}
	return false
}

// P19.3: where each subject of drawn models can come is the least set of which the promise speaks; and of what is neither one nor a set of the model nothing is said.
func TestCouldAgainstTheWords(t *testing.T) {
	reached, none, refused := 0, 0, 0
	for n := range int64(150) {
		c := &maker{Rand: seeded(1<<21 + n), nots: n%3 > 0}
		m := c.model()
		l := plainEdges(m, map[string]int{})
		for _, s := range append(subjectsOf(m, "1"), wrongSubjects()...) {
			if !couldHave(m, s) {
				refused++
				wantNoPlaces(t, m, s, api.ErrSubject)
				continue
			}
			want := plainCould(l, s)
			if got := could(t, m, s); !slices.Equal(got, want) {
				t.Fatalf("%s\n%s: %q, want %q", textOf(m), subjectText(s), placeTexts(got), placeTexts(want))
			}
			reached += len(want)
			if len(want) == 0 {
				none++
			}
		}
	}
	if reached < 10000 || none < 8 || refused < 10000 {
		t.Error(reached, none, refused)
	}
}

// P19.4: Who is, type by type, what Could says of that type's ones.
func TestWhoAgainstCould(t *testing.T) {
	named, none := 0, 0
	for n := range int64(150) {
		c := &maker{Rand: seeded(1<<22 + n), nots: n%3 > 0}
		m := c.model()
		types := m.Schema().Types
		slices.SortFunc(types, func(a, b api.Type) int { return strings.Compare(a.Name, b.Name) })
		comes := map[string][]api.Place{}
		for _, typ := range types {
			comes[typ.Name] = could(t, m, api.Subject{Type: typ.Name, Id: "1"})
		}
		for _, p := range m.Places() {
			var want []string
			for _, typ := range types {
				if slices.Contains(comes[typ.Name], p) {
					want = append(want, typ.Name)
				}
			}
			if got := who(t, m, p); !slices.Equal(got, want) {
				t.Fatalf("%s\n%s: %q, want %q", textOf(m), placeText(p), got, want)
			}
			named += len(want)
			if len(want) == 0 {
				none++
			}
		}
		for _, typ := range types {
			wantNoTypes(t, m, api.Place{Type: typ.Name}, api.ErrRelation)
			wantNoTypes(t, m, api.Place{Type: typ.Name, Rel: "x"}, api.ErrRelation)
			wantNoTypes(t, m, api.Place{Type: typ.Name + "s", Rel: "p"}, api.ErrType)
		}
	}
	if named < 2000 || none < 25 {
		t.Error(named, none)
	}
}

// What is answered doesn't hang on the order in which types, relations and allowances stand, as all of it rises.
func TestOrderOfTheSchema(t *testing.T) {
	for n := range int64(60) {
		c := &maker{Rand: seeded(1<<23 + n), nots: n%3 > 0}
		m := c.model()
		s := m.Schema()
		c.Shuffle(len(s.Types), func(i, k int) { s.Types[i], s.Types[k] = s.Types[k], s.Types[i] })
		for _, typ := range s.Types {
			r := typ.Relations
			c.Shuffle(len(r), func(i, k int) { r[i], r[k] = r[k], r[i] })
			for _, x := range r {
				for _, node := range x.Rewrite {
					a := node.Allow
					c.Shuffle(len(a), func(i, k int) { a[i], a[k] = a[k], a[i] })
				}
			}
		}
		text, _ := syntax.Print(s)
		other := model(t, text)
		if !slices.Equal(edgesOf(t, m), edgesOf(t, other)) {
			t.Fatalf("%s\n%s", textOf(m), text)
		}
		for _, s := range subjectsOf(m, "1") {
			if !slices.Equal(could(t, m, s), could(t, other, s)) {
				t.Fatalf("%s\n%s", textOf(m), text)
			}
		}
		for _, p := range m.Places() {
			if !slices.Equal(who(t, m, p), who(t, other, p)) {
				t.Fatalf("%s\n%s", textOf(m), text)
			}
		}
	}
}
