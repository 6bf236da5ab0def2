package routes_test

import (
	"math/rand"
	"slices"
	"strings"
	"testing"

	"latchkey/api"
	"latchkey/ident"
	"latchkey/overlay"
	"latchkey/routes"
	"latchkey/schema"
	"latchkey/store"
	"latchkey/syntax"
	"latchkey/tuples"
)

// exampleText is the schema of the chapter's examples.
const exampleText = `type user
type team
  relation member: [user, team#member]
type folder
  relation viewer: [user, team#member]
type doc
  relation home: [folder]
  relation owner: [user with office]
  relation banned: [user, team#member]
  relation viewer: [user:*] or owner or viewer from home
  relation reader: viewer not banned
  relation both: (owner and viewer) or owner
cond office(at: int): at >= 9`

// model is that of a text; its conditions may be those of condsText.
func model(t *testing.T, text string) *schema.Model {
	t.Helper()
	s, spot := syntax.Parse(text)
	m, fault := schema.Of(s)
	if spot.Err != api.OK || fault.Err != api.OK {
		t.Fatalf("%s: %+v, %+v", text, spot, fault)
	}
	return m
}

func textOf(m *schema.Model) string {
	text, _ := syntax.Print(m.Schema())
	return text
}

// place takes a type, a point and a relation for the place that they say; without a point it is a type alone.
func place(s string) api.Place {
	typ, rel, _ := strings.Cut(s, ".")
	return api.Place{Type: typ, Rel: rel}
}

func placeText(p api.Place) string {
	if p.Rel == "" {
		return p.Type
	}
	return p.Type + "." + p.Rel
}

func placeTexts(l []api.Place) []string {
	var texts []string
	for _, p := range l {
		texts = append(texts, placeText(p))
	}
	return texts
}

// subject takes a text for the subject that it is.
func subject(s string) api.Subject {
	x, e := ident.Subject(s)
	if e != api.OK {
		panic(s)
	}
	return x
}

func subjectText(s api.Subject) string {
	text, _ := ident.SubjectText(s)
	return text
}

func edgeKinds() []string { return []string{"none", "direct", "set", "same", "from"} }

// edgeText tells an edge: from what it leads, by what kind, to what; "way x", "all", "exact" behind that, where they are so.
func edgeText(e api.Edge) string {
	text := placeText(e.To) + ": " + edgeKinds()[e.Kind] + " " + placeText(e.From)
	if e.Way != "" {
		text += " way " + e.Way
	}
	if e.All {
		text += " all"
	}
	if e.Exact {
		text += " exact"
	}
	return text
}

func edgeTexts(l []api.Edge) []string {
	var texts []string
	for _, e := range l {
		texts = append(texts, edgeText(e))
	}
	return texts
}

// edge takes such a text for the edge that it tells.
func edge(text string) api.Edge {
	to, rest, _ := strings.Cut(text, ": ")
	words := strings.Fields(rest)
	e := api.Edge{To: place(to), Kind: slices.Index(edgeKinds(), words[0]), From: place(words[1])}
	for words = words[2:]; len(words) > 0; words = words[1:] {
		switch words[0] {
		case "way":
			e.Way, words = words[1], words[1:]
		case "all":
			e.All = true
		case "exact":
			e.Exact = true
		}
	}
	return e
}

func edgesIn(texts ...string) []api.Edge {
	var l []api.Edge
	for _, text := range texts {
		l = append(l, edge(text))
	}
	return l
}

// edgesOf are the edges of a model.
func edgesOf(t *testing.T, m *schema.Model) []api.Edge {
	t.Helper()
	l, e := routes.Of(m)
	if e != api.OK {
		t.Fatalf("Of: %d", e)
	}
	return l
}

// wantEdges asks for the edges of a model, which are just these, in this order.
func wantEdges(t *testing.T, text string, want ...string) {
	t.Helper()
	l := edgesOf(t, model(t, text))
	if !slices.Equal(edgeTexts(l), want) || !slices.Equal(l, edgesIn(want...)) {
		t.Errorf("%s:\n%s\nwant\n%s", text, strings.Join(edgeTexts(l), "\n"), strings.Join(want, "\n"))
	}
}

// wantEdgesTo asks for those that lead to one place, which are just these: what stands behind the point and the blank.
func wantEdgesTo(t *testing.T, text, to string, want ...string) {
	t.Helper()
	var all []string
	for _, rest := range want {
		all = append(all, to+": "+rest)
	}
	l := routes.Into(edgesOf(t, model(t, text)), place(to))
	if !slices.Equal(edgeTexts(l), all) {
		t.Errorf("%s:\n%s\nwant\n%s", text, strings.Join(edgeTexts(l), "\n"), strings.Join(all, "\n"))
	}
}

// could are the places that Could answers.
func could(t *testing.T, m *schema.Model, s api.Subject) []api.Place {
	t.Helper()
	l, e := routes.Could(m, s)
	if e != api.OK {
		t.Fatalf("Could(.., %q): %d", s, e)
	}
	return l
}

// wantCould asks where a subject can come, which is just there, in this order.
func wantCould(t *testing.T, m *schema.Model, s string, want ...string) {
	t.Helper()
	if got := placeTexts(could(t, m, subject(s))); !slices.Equal(got, want) {
		t.Errorf("Could(%s): %q, want %q", s, got, want)
	}
}

// who are the types that Who answers.
func who(t *testing.T, m *schema.Model, p api.Place) []string {
	t.Helper()
	l, e := routes.Who(m, p)
	if e != api.OK {
		t.Fatalf("Who(.., %q): %d", p, e)
	}
	return l
}

// wantWho asks whose ones can come to a place, which are just these types.
func wantWho(t *testing.T, m *schema.Model, p string, want ...string) {
	t.Helper()
	if got := who(t, m, place(p)); !slices.Equal(got, want) {
		t.Errorf("Who(%s): %q, want %q", p, got, want)
	}
}

// wantNoPlaces asks Could for an error, with nothing beside it.
func wantNoPlaces(t *testing.T, m *schema.Model, s api.Subject, want api.Errno) {
	t.Helper()
	if l, e := routes.Could(m, s); e != want || l != nil {
		t.Errorf("Could(.., %q): %q, %d, want %d", s, l, e, want)
	}
}

// wantNoTypes asks Who for an error, with nothing beside it.
func wantNoTypes(t *testing.T, m *schema.Model, p api.Place, want api.Errno) {
	t.Helper()
	if l, e := routes.Who(m, p); e != want || l != nil {
		t.Errorf("Who(.., %q): %q, %d, want %d", p, l, e, want)
	}
}

// snapWith is a snapshot of these tuples.
func snapWith(t *testing.T, m *schema.Model, l []api.Tuple) *store.Snap {
	t.Helper()
	s, e := store.New(m, api.Limits{Tuples: api.MaxTuples, Keep: 1}, 0)
	if e != api.OK {
		t.Fatal(e)
	}
	for part := range slices.Chunk(l, api.MaxBatch) {
		var changes []api.Change
		for _, x := range part {
			changes = append(changes, api.Change{Kind: api.ChangeInsert, Tuple: x})
		}
		if _, e := s.Write(changes, nil); e != api.OK {
			t.Fatalf("Write: %d", e)
		}
	}
	snap, _ := s.Snap(s.Newest())
	return snap
}

func laid(t *testing.T, src store.Source, more, less []api.Tuple) *overlay.Overlay {
	t.Helper()
	o, e := overlay.Over(src, more, less)
	if e != api.OK {
		t.Fatalf("Over: %d", e)
	}
	return o
}

func fact(s string) api.Tuple {
	x, e := tuples.Parse(s)
	if e != api.OK {
		panic(s)
	}
	return x
}

func facts(texts ...string) []api.Tuple {
	var l []api.Tuple
	for _, s := range texts {
		l = append(l, fact(s))
	}
	return l
}

func whole(name string, n int64) api.Arg {
	return api.Arg{Name: name, Value: api.Value{Kind: api.ValInt, Int: n}}
}

func grantText(g api.Grant) string {
	return g.Object.Type + ":" + g.Object.Id + " " + g.Rel
}

// told tells a source, for whoever wants to know what went wrong.
func told(src store.Source) string {
	text := textOf(src.Model())
	for x := range src.All() {
		line, _ := tuples.Text(x)
		text += line + "\n"
	}
	return text
}

func seeded(n int64) *rand.Rand { return rand.New(rand.NewSource(n)) }
