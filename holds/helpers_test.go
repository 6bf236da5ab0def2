package holds_test

import (
	"cmp"
	"math/rand"
	"slices"
	"strings"
	"testing"

	"latchkey/api"
	"latchkey/holds"
	"latchkey/ident"
	"latchkey/overlay"
	"latchkey/schema"
	"latchkey/store"
	"latchkey/syntax"
	"latchkey/tuples"
)

// exampleText is the schema of the chapter's examples.
const exampleText = `type user
type team
  relation member: [user, team#member]
type folder
  relation viewer: [user, team#member]
type doc
  relation home: [folder]
  relation owner: [user with office]
  relation banned: [user, team#member]
  relation viewer: [user:*] or owner or viewer from home
  relation reader: viewer not banned
cond office(at: int): at >= 9`

// exampleFacts are the tuples of the chapter's examples.
func exampleFacts() []string {
	return []string{"team:a#member@user:ann", "team:b#member@team:a#member", "team:a#member@team:b#member", "folder:f#viewer@team:b#member", "doc:1#home@folder:f", "doc:2#viewer@user:*", "doc:2#owner@user:bob with office", "doc:3#owner@user:bob with office{at: 10}", "doc:2#banned@user:ann"}
}

func example(t *testing.T) *store.Snap {
	t.Helper()
	return snapOf(t, exampleText, exampleFacts()...)
}

func model(t *testing.T, text string) *schema.Model {
	t.Helper()
	s, spot := syntax.Parse(text)
	m, fault := schema.Of(s)
	if spot.Err != api.OK || fault.Err != api.OK {
		t.Fatalf("%s: %+v, %+v", text, spot, fault)
	}
	return m
}

func fact(s string) api.Tuple {
	x, e := tuples.Parse(s)
	if e != api.OK {
		panic(s)
	}
	return x
}

func facts(texts ...string) []api.Tuple {
	var l []api.Tuple
	for _, s := range texts {
		l = append(l, fact(s))
	}
	return l
}

// snapWith is a snapshot of these tuples.
func snapWith(t *testing.T, m *schema.Model, l []api.Tuple) *store.Snap {
	t.Helper()
	s, e := store.New(m, api.Limits{Tuples: api.MaxTuples, Keep: 1}, 0)
	if e != api.OK {
		t.Fatal(e)
	}
	for part := range slices.Chunk(l, api.MaxBatch) {
		var changes []api.Change
		for _, x := range part {
			changes = append(changes, api.Change{Kind: api.ChangeInsert, Tuple: x})
		}
		if _, e := s.Write(changes, nil); e != api.OK {
			t.Fatalf("Write: %d", e)
		}
	}
	snap, _ := s.Snap(s.Newest())
	return snap
}

func snapOf(t *testing.T, text string, texts ...string) *store.Snap {
	t.Helper()
	return snapWith(t, model(t, text), facts(texts...))
}

func laid(t *testing.T, src store.Source, more, less []api.Tuple) *overlay.Overlay {
	t.Helper()
	o, e := overlay.Over(src, more, less)
	if e != api.OK {
		t.Fatalf("Over: %d", e)
	}
	return o
}

// subject takes a text for the subject that it is.
func subject(s string) api.Subject {
	x, e := ident.Subject(s)
	if e != api.OK {
		panic(s)
	}
	return x
}

func subjectText(s api.Subject) string {
	text, _ := ident.SubjectText(s)
	return text
}

// with are arguments, as they stand in a tuple's text.
func with(args string) []api.Arg {
	return fact("d:1#r@u:a with c{" + args + "}").Args
}

func whole(name string, n int64) api.Arg {
	return api.Arg{Name: name, Value: api.Value{Kind: api.ValInt, Int: n}}
}

// grant takes an object's text, a blank and a relation for the grant that they say.
func grant(s string) api.Grant {
	object, rel, _ := strings.Cut(s, " ")
	o, e := ident.Object(object)
	if e != api.OK {
		panic(s)
	}
	return api.Grant{Object: o, Rel: rel}
}

func grantText(g api.Grant) string {
	return g.Object.Type + ":" + g.Object.Id + " " + g.Rel
}

func grantTexts(l []api.Grant) []string {
	var all []string
	for _, g := range l {
		all = append(all, grantText(g))
	}
	return all
}

// order says that grants rise by their objects' types, ids and then their relations.
func order(a, b api.Grant) int {
	return cmp.Or(cmp.Compare(a.Object.Type, b.Object.Type), cmp.Compare(a.Object.Id, b.Object.Id), cmp.Compare(a.Rel, b.Rel))
}

// objectsOf are the objects that the tuples name, as objects and as subjects, one of each type that they don't, and of each of these types.
func objectsOf(src store.Source) []api.Object {
	all := map[api.Object]int{}
	for x := range src.All() {
		all[x.Object] = 1
		if x.Subject.Id != "*" {
			all[api.Object{Type: x.Subject.Type, Id: x.Subject.Id}] = 1
		}
	}
	for _, t := range src.Model().Schema().Types {
		all[api.Object{Type: t.Name, Id: "nobody-names-it"}] = 1
	}
	var l []api.Object
	for o := range all {
		l = append(l, o)
	}
	slices.SortFunc(l, func(a, b api.Object) int { return order(api.Grant{Object: a}, api.Grant{Object: b}) })
	return l
}

func of(t *testing.T, src store.Source, s api.Subject, ctx []api.Arg) []api.Grant {
	t.Helper()
	l, e := holds.Of(src, s, ctx)
	if e != api.OK {
		t.Fatalf("Of(.., %q): %d", s, e)
	}
	return l
}

func layers(t *testing.T, src store.Source, s api.Subject, ctx []api.Arg) [][]api.Grant {
	t.Helper()
	l, e := holds.Layers(src, s, ctx)
	if e != api.OK {
		t.Fatalf("Layers(.., %q): %d", s, e)
	}
	return l
}

func has(t *testing.T, src store.Source, s api.Subject, ctx []api.Arg, g api.Grant) bool {
	t.Helper()
	yes, e := holds.Has(src, api.Query{Object: g.Object, Rel: g.Rel, Subject: s, Ctx: ctx})
	if e != api.OK {
		t.Fatalf("Has(.., %s, %q): %d", grantText(g), s, e)
	}
	return yes
}

// wantGrants asks all three calls for just these grants of s, which rise.
func wantGrants(t *testing.T, src store.Source, s api.Subject, ctx []api.Arg, want []api.Grant) {
	t.Helper()
	if !slices.IsSortedFunc(want, order) {
		t.Fatalf("%q don't rise", grantTexts(want))
	}
	if got := of(t, src, s, ctx); !slices.Equal(got, want) {
		t.Errorf("Of %s: %q, want %q", subjectText(s), grantTexts(got), grantTexts(want))
	}
	wantInLayers(t, src, layers(t, src, s, ctx), want)
	for _, o := range objectsOf(src) {
		for _, p := range src.Model().Places() {
			g := api.Grant{Object: o, Rel: p.Rel}
			if yes := p.Type == o.Type && has(t, src, s, ctx, g); yes != (p.Type == o.Type && slices.Contains(want, g)) {
				t.Errorf("Has %s %s: %v", subjectText(s), grantText(g), yes)
			}
		}
	}
}

// wantInLayers asks for as many layers as the model has strata, and for just these grants, each in its stratum's.
func wantInLayers(t *testing.T, src store.Source, got [][]api.Grant, want []api.Grant) {
	t.Helper()
	m := src.Model()
	top := -1
	for n := range m.Places() {
		top = max(top, m.Stratum(n))
	}
	if len(got) != top+1 {
		t.Errorf("%d layers, want %d", len(got), top+1)
	}
	for n, l := range got {
		rest := slices.DeleteFunc(slices.Clone(want), func(g api.Grant) bool { return m.Stratum(m.Number(g.Object.Type, g.Rel)) != n })
		if !slices.Equal(l, rest) {
			t.Errorf("layer %d: %q, want %q", n, grantTexts(l), grantTexts(rest))
		}
	}
}

// wantOf asks for what a subject has, whatever the order in which that is written here.
func wantOf(t *testing.T, src store.Source, s string, ctx []api.Arg, want ...string) {
	t.Helper()
	var l []api.Grant
	for _, g := range want {
		l = append(l, grant(g))
	}
	slices.SortFunc(l, order)
	wantGrants(t, src, subject(s), ctx, l)
}

// wantRefused asks Of and Layers for an error, with nothing beside it.
func wantRefused(t *testing.T, src store.Source, s api.Subject, ctx []api.Arg, want api.Errno) {
	t.Helper()
	if l, e := holds.Of(src, s, ctx); l != nil || e != want {
		t.Errorf("Of(.., %q, %v): %q, %d, want %d", s, ctx, grantTexts(l), e, want)
	}
	if l, e := holds.Layers(src, s, ctx); l != nil || e != want {
		t.Errorf("Layers(.., %q, %v): %v, %d, want %d", s, ctx, l, e, want)
	}
}

// wantNoHas asks Has for an error, and for false beside it, whatever the budget.
func wantNoHas(t *testing.T, src store.Source, q api.Query, want api.Errno) {
	t.Helper()
	for _, q.Budget = range budgets() {
		if yes, e := holds.Has(src, q); yes || e != want {
			t.Errorf("Has(.., %+v): %v, %d, want %d", q, yes, e, want)
		}
	}
}

// budgets are some that may be, and some that may not.
func budgets() []int {
	return []int{0, 1, -1, -1 << 63, 1<<63 - 1, api.MaxBudget, api.MaxBudget + 1}
}

func seeded(n int64) *rand.Rand { return rand.New(rand.NewSource(n)) }
