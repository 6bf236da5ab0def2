package check_test

import (
	"cmp"
	"math/rand"
	"slices"
	"strings"
	"testing"

	"latchkey/api"
	"latchkey/check"
	"latchkey/holds"
	"latchkey/ident"
	"latchkey/overlay"
	"latchkey/schema"
	"latchkey/store"
	"latchkey/syntax"
	"latchkey/tuples"
)

// exampleText is the schema of the chapter's examples.
const exampleText = `type user
type team
  relation member: [user, team#member]
type doc
  relation parent: [doc]
  relation owner: [user]
  relation blocked: [user]
  relation viewer: ([user, user:*, team#member] or owner or viewer from parent) not blocked`

// exampleFacts are the tuples of the chapter's examples.
func exampleFacts() []string {
	return []string{"team:a#member@user:ann", "team:b#member@team:a#member", "team:a#member@team:b#member", "doc:1#viewer@team:b#member", "doc:2#parent@doc:1", "doc:2#blocked@user:ann", "doc:3#parent@doc:2", "doc:4#viewer@user:*"}
}

func example(t *testing.T) *store.Snap {
	t.Helper()
	return snapOf(t, exampleText, exampleFacts()...)
}

func model(t *testing.T, text string) *schema.Model {
	t.Helper()
	s, spot := syntax.Parse(text)
	m, fault := schema.Of(s)
	if spot.Err != api.OK || fault.Err != api.OK {
		t.Fatalf("%s: %+v, %+v", text, spot, fault)
	}
	return m
}

func fact(s string) api.Tuple {
	x, e := tuples.Parse(s)
	if e != api.OK {
		panic(s)
	}
	return x
}

func facts(texts ...string) []api.Tuple {
	var l []api.Tuple
	for _, s := range texts {
		l = append(l, fact(s))
	}
	return l
}

// snapWith is a snapshot of these tuples.
func snapWith(t *testing.T, m *schema.Model, l []api.Tuple) *store.Snap {
	t.Helper()
	s, e := store.New(m, api.Limits{Tuples: api.MaxTuples, Keep: 1}, 0)
	if e != api.OK {
		t.Fatal(e)
	}
	for part := range slices.Chunk(l, api.MaxBatch) {
		var changes []api.Change
		for _, x := range part {
			changes = append(changes, api.Change{Kind: api.ChangeInsert, Tuple: x})
		}
		if _, e := s.Write(changes, nil); e != api.OK {
			t.Fatalf("Write: %d", e)
		}
	}
	snap, _ := s.Snap(s.Newest())
	return snap
}

func snapOf(t *testing.T, text string, texts ...string) *store.Snap {
	t.Helper()
	return snapWith(t, model(t, text), facts(texts...))
}

func laid(t *testing.T, src store.Source, more, less []api.Tuple) *overlay.Overlay {
	t.Helper()
	o, e := overlay.Over(src, more, less)
	if e != api.OK {
		t.Fatalf("Over: %d", e)
	}
	return o
}

// subject takes a text for the subject that it is.
func subject(s string) api.Subject {
	x, e := ident.Subject(s)
	if e != api.OK {
		panic(s)
	}
	return x
}

func subjectText(s api.Subject) string {
	text, _ := ident.SubjectText(s)
	return text
}

// with are arguments, as they stand in a tuple's text.
func with(args string) []api.Arg {
	return fact("d:1#r@u:a with c{" + args + "}").Args
}

func whole(name string, n int64) api.Arg {
	return api.Arg{Name: name, Value: api.Value{Kind: api.ValInt, Int: n}}
}

// grant takes an object's text, a blank and a relation for the grant that they say.
func grant(s string) api.Grant {
	object, rel, _ := strings.Cut(s, " ")
	o, e := ident.Object(object)
	if e != api.OK {
		panic(s)
	}
	return api.Grant{Object: o, Rel: rel}
}

func grantText(g api.Grant) string {
	return g.Object.Type + ":" + g.Object.Id + " " + g.Rel
}

// query asks whether s has g, with as great a budget as is enough for anything.
func query(src store.Source, g api.Grant, s api.Subject, ctx []api.Arg) api.Query {
	return api.Query{Object: g.Object, Rel: g.Rel, Subject: s, Ctx: ctx, Budget: most(src)}
}

// most is the bound of a source.
func most(src store.Source) int {
	return check.Bound(src.Model().Size(), src.Len())
}

// grantsOf are all that can be asked for of a source: each relation of each object that the tuples name, as objects and as subjects, and of one of each type that they don't.
func grantsOf(src store.Source) []api.Grant {
	all := map[api.Object]int{}
	for x := range src.All() {
		all[x.Object] = 1
		if x.Subject.Id != "*" {
			all[api.Object{Type: x.Subject.Type, Id: x.Subject.Id}] = 1
		}
	}
	for _, t := range src.Model().Schema().Types {
		all[api.Object{Type: t.Name, Id: "nobody-names-it"}] = 1
	}
	var l []api.Grant
	for o := range all {
		for _, p := range src.Model().Places() {
			if p.Type == o.Type {
				l = append(l, api.Grant{Object: o, Rel: p.Rel})
			}
		}
	}
	slices.SortFunc(l, order)
	return l
}

// order says that grants rise by their objects' types, ids and then their relations.
func order(a, b api.Grant) int {
	return cmp.Or(cmp.Compare(a.Object.Type, b.Object.Type), cmp.Compare(a.Object.Id, b.Object.Id), cmp.Compare(a.Rel, b.Rel))
}

// held are the grants that s has, as holds tells them.
func held(t *testing.T, src store.Source, s api.Subject, ctx []api.Arg) map[api.Grant]int {
	t.Helper()
	l, e := holds.Of(src, s, ctx)
	if e != api.OK {
		t.Fatalf("holds.Of(.., %q): %d", s, e)
	}
	all := map[api.Grant]int{}
	for _, g := range l {
		all[g] = 1
	}
	return all
}

// ask asks a question that has an answer, whose steps are within the bound.
func ask(t *testing.T, src store.Source, q api.Query) api.Verdict {
	t.Helper()
	v, e := check.Ask(src, q)
	if e != api.OK || v.Err != api.OK || v.Steps < 1 || v.Steps > q.Budget || v.Steps > most(src) {
		t.Fatalf("%s\n%+v: %+v, %d", told(src, q), q, v, e)
	}
	return v
}

func has(t *testing.T, src store.Source, s api.Subject, ctx []api.Arg, g api.Grant) bool {
	t.Helper()
	return ask(t, src, query(src, g, s, ctx)).Held
}

// told tells a question, for whoever wants to know what went wrong.
func told(src store.Source, q api.Query) string {
	if src.Len() > 1000 {
		return "a great source"
	}
	text, _ := syntax.Print(src.Model().Schema())
	for x := range src.All() {
		line, _ := tuples.Text(x)
		text += line + "\n"
	}
	line, _ := tuples.Text(api.Tuple{Object: q.Object, Rel: q.Rel, Subject: q.Subject, Cond: "ctx", Args: q.Ctx})
	return text + line
}

// wantGrants asks for all that can be asked for, and wants s to have just what is in want; each question with just its steps, and with one less, too.
func wantGrants(t *testing.T, src store.Source, s api.Subject, ctx []api.Arg, want map[api.Grant]int) {
	t.Helper()
	all := grantsOf(src)
	for g := range want {
		if !slices.Contains(all, g) {
			all = append(all, g)
		}
	}
	for _, g := range all {
		q := query(src, g, s, ctx)
		v := ask(t, src, q)
		if v.Held != (want[g] > 0) {
			t.Errorf("%s\n%s has %s: %v", told(src, q), subjectText(s), grantText(g), v.Held)
		}
		wantBudget(t, src, q, v, v.Steps-1, v.Steps)
	}
}

// wantBudget asks the question, which has that answer, with other budgets.
func wantBudget(t *testing.T, src store.Source, q api.Query, v api.Verdict, budgets ...int) {
	t.Helper()
	for _, q.Budget = range budgets {
		want := v
		switch {
		case q.Budget < 1:
			want = api.Verdict{Err: api.ErrArg}
		case q.Budget < v.Steps:
			want = api.Verdict{Steps: q.Budget, Err: api.ErrBudget}
		}
		if got, e := check.Ask(src, q); got != want || e != want.Err {
			t.Errorf("%s\nwith the budget %d: %+v, %d, want %+v", told(src, q), q.Budget, got, e, want)
		}
	}
}

// wantOf asks for what a subject has, which is just this; and holds must say so too.
func wantOf(t *testing.T, src store.Source, s string, ctx []api.Arg, want ...string) {
	t.Helper()
	all := map[api.Grant]int{}
	for _, g := range want {
		all[grant(g)] = 1
	}
	wantGrants(t, src, subject(s), ctx, all)
	if l := held(t, src, subject(s), ctx); len(l) != len(all) {
		t.Errorf("holds says otherwise: %v", l)
	}
}

// wantRefused asks Ask for an error, with nothing beside it.
func wantRefused(t *testing.T, src store.Source, q api.Query, want api.Errno) {
	t.Helper()
	if v, e := check.Ask(src, q); e != want || v != (api.Verdict{Err: want}) {
		t.Errorf("Ask(.., %+v): %+v, %d, want %d", q, v, e, want)
	}
}

// asker is one that may be.
func asker(t *testing.T, src store.Source, s api.Subject, ctx []api.Arg) *check.Asker {
	t.Helper()
	a, e := check.New(src, s, ctx)
	if a == nil || e != api.OK {
		t.Fatalf("New(.., %q, %v): %d", s, ctx, e)
	}
	return a
}

func seeded(n int64) *rand.Rand { return rand.New(rand.NewSource(n)) }

// textOf is the text of a source's schema.
func textOf(src store.Source) string {
	text, _ := syntax.Print(src.Model().Schema())
	return text
}
