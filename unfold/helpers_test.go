package unfold_test

import (
	"cmp"
	"fmt"
	"math/rand"
	"slices"
	"strings"
	"testing"

	"latchkey/api"
	"latchkey/ident"
	"latchkey/overlay"
	"latchkey/schema"
	"latchkey/store"
	"latchkey/syntax"
	"latchkey/tuples"
	"latchkey/unfold"
)

// exampleText is the schema of the chapter's examples.
const exampleText = `type user
type team
  relation member: [user, team#member]
type folder
  relation owner: [user]
type doc
  relation home: [folder]
  relation banned: [user]
  relation viewer: [user, team#member] or owner from home
  relation reader: viewer not banned`

func example(t *testing.T) *store.Snap {
	t.Helper()
	return snapOf(t, exampleText, "doc:1#home@folder:f", "doc:1#viewer@user:ann", "doc:1#viewer@team:a#member", "folder:f#owner@user:bob", "doc:1#banned@user:bob")
}

func model(t *testing.T, text string) *schema.Model {
	t.Helper()
	s, spot := syntax.Parse(text)
	m, fault := schema.Of(s)
	if spot.Err != api.OK || fault.Err != api.OK {
		t.Fatalf("%s: %+v, %+v", text, spot, fault)
	}
	return m
}

func fact(s string) api.Tuple {
	x, e := tuples.Parse(s)
	if e != api.OK {
		panic(s)
	}
	return x
}

func facts(texts ...string) []api.Tuple {
	var l []api.Tuple
	for _, s := range texts {
		l = append(l, fact(s))
	}
	return l
}

// snapWith is a snapshot of these tuples.
func snapWith(t *testing.T, m *schema.Model, l []api.Tuple) *store.Snap {
	t.Helper()
	s, e := store.New(m, api.Limits{Tuples: api.MaxTuples, Keep: 1}, 0)
	if e != api.OK {
		t.Fatal(e)
	}
	for part := range slices.Chunk(l, api.MaxBatch) {
		var changes []api.Change
		for _, x := range part {
			changes = append(changes, api.Change{Kind: api.ChangeInsert, Tuple: x})
		}
		if _, e := s.Write(changes, nil); e != api.OK {
			t.Fatalf("Write: %d", e)
		}
	}
	snap, _ := s.Snap(s.Newest())
	return snap
}

func snapOf(t *testing.T, text string, texts ...string) *store.Snap {
	t.Helper()
	return snapWith(t, model(t, text), facts(texts...))
}

func laid(t *testing.T, src store.Source, more, less []api.Tuple) *overlay.Overlay {
	t.Helper()
	o, e := overlay.Over(src, more, less)
	if e != api.OK {
		t.Fatalf("Over: %d", e)
	}
	return o
}

// subject takes a text for the subject that it is.
func subject(s string) api.Subject {
	x, e := ident.Subject(s)
	if e != api.OK {
		panic(s)
	}
	return x
}

func subjectsOf(texts ...string) []api.Subject {
	var l []api.Subject
	for _, s := range texts {
		l = append(l, subject(s))
	}
	return l
}

// with are arguments, as they stand in a tuple's text.
func with(args string) []api.Arg {
	return fact("d:1#r@u:a with c{" + args + "}").Args
}

func whole(name string, n int64) api.Arg {
	return api.Arg{Name: name, Value: api.Value{Kind: api.ValInt, Int: n}}
}

// grant takes an object's text, a blank and a relation for the grant that they say.
func grant(s string) api.Grant {
	object, rel, _ := strings.Cut(s, " ")
	o, e := ident.Object(object)
	if e != api.OK {
		panic(s)
	}
	return api.Grant{Object: o, Rel: rel}
}

func grantText(g api.Grant) string {
	return g.Object.Type + ":" + g.Object.Id + " " + g.Rel
}

// setOf are those who have g.
func setOf(g api.Grant) api.Subject {
	return api.Subject{Type: g.Object.Type, Id: g.Object.Id, Rel: g.Rel}
}

// grantsOf are all that can be unfolded of a source: each relation of each object that the tuples name, as objects and as subjects, and of one of each type that they don't.
func grantsOf(src store.Source) []api.Grant {
	all := map[api.Object]int{}
	for x := range src.All() {
		all[x.Object] = 1
		if x.Subject.Id != "*" {
			all[api.Object{Type: x.Subject.Type, Id: x.Subject.Id}] = 1
		}
	}
	for _, t := range src.Model().Schema().Types {
		all[api.Object{Type: t.Name, Id: "nobody-names-it"}] = 1
	}
	var l []api.Grant
	for o := range all {
		for _, p := range src.Model().Places() {
			if p.Type == o.Type {
				l = append(l, api.Grant{Object: o, Rel: p.Rel})
			}
		}
	}
	slices.SortFunc(l, order)
	return l
}

// order says that grants rise by their objects' types, ids and then their relations.
func order(a, b api.Grant) int {
	return cmp.Or(cmp.Compare(a.Object.Type, b.Object.Type), cmp.Compare(a.Object.Id, b.Object.Id), cmp.Compare(a.Rel, b.Rel))
}

func kindNames() []string { return []string{"", "this", "same", "from", "or", "and", "not"} }

// lineOf tells a branch: its kind, its place, whom it names, how many kids it has or that it is cut.
func lineOf(b api.Branch) string {
	kind := fmt.Sprint(b.Kind)
	if 0 < b.Kind && b.Kind < len(kindNames()) {
		kind = kindNames()[b.Kind]
	}
	line := kind + " " + grantText(b.Place)
	for _, s := range b.Subjects {
		text, _ := ident.SubjectText(s)
		line += " " + text
	}
	if b.Kids != 0 {
		line += fmt.Sprint(" ", b.Kids)
	}
	if b.Cut {
		line += " cut"
	}
	return line
}

func linesOf(l []api.Branch) []string {
	var lines []string
	for _, b := range l {
		lines = append(lines, lineOf(b))
	}
	return lines
}

func isSame(a, b api.Branch) bool {
	return a.Kind == b.Kind && a.Place == b.Place && a.Kids == b.Kids && a.Cut == b.Cut && slices.Equal(a.Subjects, b.Subjects)
}

// textsOf are the texts of subjects.
func textsOf(l []api.Subject) []string {
	var texts []string
	for _, s := range l {
		text, e := ident.SubjectText(s)
		if e != api.OK {
			text = fmt.Sprintf("%q", s)
		}
		texts = append(texts, text)
	}
	return texts
}

// unfolding is one that there is.
func unfolding(t *testing.T, src store.Source, g api.Grant, ctx []api.Arg, deep int) []api.Branch {
	t.Helper()
	l, e := unfold.Of(src, g.Object, g.Rel, ctx, deep)
	if e != api.OK {
		t.Fatalf("Of(%s, %d): %d", grantText(g), deep, e)
	}
	return l
}

// wantOf asks for an unfolding, which is just these lines.
func wantOf(t *testing.T, src store.Source, g string, ctx []api.Arg, deep int, want ...string) []api.Branch {
	t.Helper()
	l := unfolding(t, src, grant(g), ctx, deep)
	if got := linesOf(l); !slices.Equal(got, want) {
		t.Errorf("Of(%s, %d):\n%s\nwant\n%s", g, deep, strings.Join(got, "\n"), strings.Join(want, "\n"))
	}
	return l
}

// wantSubjects asks whom a tree names, which is just these.
func wantSubjects(t *testing.T, l []api.Branch, want ...string) {
	t.Helper()
	got, e := unfold.Subjects(l)
	if e != api.OK || !slices.Equal(textsOf(got), want) {
		t.Errorf("Subjects of\n%s\n%q, %d, want %q", strings.Join(linesOf(l), "\n"), textsOf(got), e, want)
	}
}

// wantNone asks for an error, with nothing beside it.
func wantNone(t *testing.T, l []api.Branch, want api.Errno) {
	t.Helper()
	if got, e := unfold.Subjects(l); e != want || got != nil {
		if len(l) > 20 {
			l = l[:20]
		}
		t.Errorf("Subjects of\n%s\n%q, %d, want %d", strings.Join(linesOf(l), "\n"), textsOf(got), e, want)
	}
}

// wantRefused asks Of for an error, with nothing beside it.
func wantRefused(t *testing.T, src store.Source, g api.Grant, ctx []api.Arg, deep int, want api.Errno) {
	t.Helper()
	if l, e := unfold.Of(src, g.Object, g.Rel, ctx, deep); e != want || l != nil {
		t.Errorf("Of(%q, .., %d): %d branches, %d, want %d", g, deep, len(l), e, want)
	}
}

// told tells a source, for whoever wants to know what went wrong.
func told(src store.Source) string {
	text, _ := syntax.Print(src.Model().Schema())
	for x := range src.All() {
		line, _ := tuples.Text(x)
		text += line + "\n"
	}
	return text
}

// Trees of branches, of which places say nothing.

func this(texts ...string) []api.Branch {
	return []api.Branch{{Kind: api.NodeThis, Subjects: subjectsOf(texts...)}}
}

func tree(kind int, kids ...[]api.Branch) []api.Branch {
	return slices.Concat(append([][]api.Branch{{{Kind: kind, Kids: len(kids)}}}, kids...)...)
}

func same(kid []api.Branch) []api.Branch     { return tree(api.NodeSame, kid) }
func from(kids ...[]api.Branch) []api.Branch { return tree(api.NodeFrom, kids...) }
func or(kids ...[]api.Branch) []api.Branch   { return tree(api.NodeOr, kids...) }
func and(kids ...[]api.Branch) []api.Branch  { return tree(api.NodeAnd, kids...) }
func not(a, b []api.Branch) []api.Branch     { return tree(api.NodeNot, a, b) }
func cut(kind int) []api.Branch              { return []api.Branch{{Kind: kind, Cut: true}} }

func seeded(n int64) *rand.Rand { return rand.New(rand.NewSource(n)) }
