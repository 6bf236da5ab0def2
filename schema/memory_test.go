package schema_test

import (
	"fmt"
	"slices"
	"sync"
	"testing"

	"latchkey/api"
	"latchkey/schema"
	"latchkey/syntax"
)

// row is one list of an answer, or of what is handed in: what it holds (but for the lists in it, which are rows of their own), that and what stands in the room behind it, and how to write all over it and that room.
type row struct {
	told   func() string
	behind func() string
	scrawl func()
}

func rowOf[T any](l []T, tell func(x T) string, scrawl T) row {
	told := func(l []T) string {
		s := ""
		for _, x := range l {
			s += tell(x) + "|"
		}
		return s
	}
	return row{
		told:   func() string { return told(l) },
		behind: func() string { return told(l[:cap(l)]) },
		scrawl: func() {
			l = l[:cap(l)]
			for i := range l {
				l[i] = scrawl
			}
		},
	}
}

func plain[T any](x T) string { return fmt.Sprintf("%+v", x) }

func rowsOfRewrite(l []api.Node) []row {
	rows := []row{rowOf(l, func(n api.Node) string {
		count := len(n.Allow)
		n.Allow = nil
		return plain(n) + plain(count)
	}, api.Node{Kind: 99, Rel: "scrawl"})}
	for _, n := range l {
		rows = append(rows, rowsOfAllows(n.Allow)...)
	}
	return rows
}

func rowsOfAllows(l []api.Allow) []row {
	return []row{rowOf(l, plain[api.Allow], api.Allow{Type: "scrawl"})}
}

func rowsOfCond(c api.Cond) []row {
	rows := []row{
		rowOf(c.Params, plain[api.Param], api.Param{Name: "scrawl"}),
		rowOf(c.Expr, func(p api.Part) string {
			count := len(p.Value.Texts)
			p.Value.Texts = nil
			return plain(p) + plain(count)
		}, api.Part{Kind: 99, Name: "scrawl"}),
	}
	for _, p := range c.Expr {
		rows = append(rows, rowOf(p.Value.Texts, plain[string], "scrawl"))
	}
	return rows
}

func rowsOfSchema(s api.Schema) []row {
	rows := []row{
		rowOf(s.Types, func(t api.Type) string { return t.Name + plain(len(t.Relations)) }, api.Type{Name: "scrawl"}),
		rowOf(s.Conds, func(c api.Cond) string { return c.Name + plain(len(c.Params)) + plain(len(c.Expr)) }, api.Cond{Name: "scrawl"}),
	}
	for _, t := range s.Types {
		rows = append(rows, rowOf(t.Relations, func(r api.Relation) string { return r.Name + plain(len(r.Rewrite)) }, api.Relation{Name: "scrawl"}))
		for _, r := range t.Relations {
			rows = append(rows, rowsOfRewrite(r.Rewrite)...)
		}
	}
	for _, c := range s.Conds {
		rows = append(rows, rowsOfCond(c)...)
	}
	return rows
}

// roomy is a copy of a list with something in the room behind its end; of an empty one too.
func roomy[T any](l []T, behind T) []T {
	return append(append(make([]T, 0, len(l)+2), l...), behind, behind)[:len(l)]
}

// roomySchema is a schema each of whose lists has something in the room behind its end: those too that are empty since their node or part has none.
func roomySchema(s api.Schema) api.Schema {
	s.Types, s.Conds = roomy(s.Types, api.Type{Name: "Behind"}), roomy(s.Conds, api.Cond{Name: "Behind"})
	for i := range s.Types {
		l := roomy(s.Types[i].Relations, api.Relation{Name: "Behind"})
		s.Types[i].Relations = l
		for k := range l {
			l[k].Rewrite = roomy(l[k].Rewrite, api.Node{Kind: 99})
			for n := range l[k].Rewrite {
				l[k].Rewrite[n].Allow = roomy(l[k].Rewrite[n].Allow, api.Allow{Type: "Behind"})
			}
		}
	}
	for i := range s.Conds {
		c := &s.Conds[i]
		c.Params, c.Expr = roomy(c.Params, api.Param{Name: "Behind"}), roomy(c.Expr, api.Part{Kind: 99})
		for k := range c.Expr {
			c.Expr[k].Value.Texts = roomy(c.Expr[k].Value.Texts, "Behind")
		}
	}
	return s
}

const manyLists = `type user type team relation member: [user, team#member, user with l] relation lead: [user] type doc relation parent: [doc, team] relation blocked: [user:*]
relation viewer: ([user, team#member, user with k] or parent or lead from parent) not (blocked not parent) type void
cond k(n: int, l: texts): n > 1 and l == ["a", "b"] or ["c"] != l cond l(): true`

func told(rows []row) []string {
	var l []string
	for _, r := range rows {
		l = append(l, r.told())
	}
	return l
}

func behind(rows []row) []string {
	var l []string
	for _, r := range rows {
		l = append(l, r.behind())
	}
	return l
}

// answers are what a model answers, call by call, as rows.
func answers(m *schema.Model) map[string]func() []row {
	all := map[string]func() []row{
		"Schema": func() []row { return rowsOfSchema(m.Schema()) },
		"Places": func() []row {
			return []row{rowOf(m.Places(), plain[api.Place], api.Place{Type: "scrawl", Rel: "scrawl"})}
		},
		"Arcs": func() []row { return []row{rowOf(m.Arcs(), plain[api.Arc], api.Arc{From: 99, To: -99})} },
	}
	for _, s := range []string{"k", "l", "none"} {
		all["Cond "+s] = func() []row {
			c, _ := m.Cond(s)
			return rowsOfCond(c)
		}
	}
	for n := -1; n <= 5; n++ {
		all["Rewrite "+plain(n)] = func() []row { return rowsOfRewrite(m.Rewrite(n)) }
		all["Allows "+plain(n)] = func() []row { return rowsOfAllows(m.Allows(n)) }
	}
	return all
}

// whole is all that a model answers.
func whole(m *schema.Model) string {
	text, e := syntax.Print(m.Schema())
	s := fmt.Sprint(text, e, m.Places(), m.Arcs(), levels(m), m.Size())
	for n, p := range m.Places() {
		s += fmt.Sprint(m.Number(p.Type, p.Rel), m.Rewrite(n), m.Allows(n))
	}
	for _, name := range []string{"k", "l", "none"} {
		c, ok := m.Cond(name)
		s += fmt.Sprint(c, ok)
	}
	return s
}

// DOC.md, Memory, and P9.5: each list that goes out is the caller's, the room behind it too: what is written there shows nowhere else.
func TestAnswersAreTheCallers(t *testing.T) {
	s := roomySchema(read(t, manyLists))
	given := rowsOfSchema(s)
	kept := behind(given)
	m := taken(t, s)
	all := whole(m)
	for name, answer := range answers(m) {
		for i := range answer() {
			one, two := answer(), answer()
			want := told(one)
			one[i].scrawl()
			for j := range one {
				if i != j && one[j].told() != want[j] || two[j].told() != want[j] {
					t.Errorf("%s: what was written into row %d shows in row %d: %s, %s, not %s", name, i, j, one[j].told(), two[j].told(), want[j])
				}
			}
			if got := whole(m); got != all {
				t.Fatalf("%s: what was written into row %d shows in the model: %s", name, i, got)
			}
		}
	}
	if !slices.Equal(behind(given), kept) {
		t.Error("what was written into answers shows in what came in")
	}
}

// DOC.md, Memory, and P9.5: a model doesn't change with what Of was handed, nor does what it has answered.
func TestModelsAreKept(t *testing.T) {
	s := roomySchema(read(t, manyLists))
	m := taken(t, s)
	all := whole(m)
	var rows []row
	for _, answer := range answers(m) {
		rows = append(rows, answer()...)
	}
	want := behind(rows)
	for _, r := range rowsOfSchema(s) {
		r.scrawl()
	}
	if got := whole(m); got != all {
		t.Errorf("%s: not %s", got, all)
	}
	if !slices.Equal(behind(rows), want) {
		t.Error("what was answered has changed")
	}
}

// DOC.md, Memory: no list that comes in is written, nor the room behind its end, whether it is taken or not; and that room isn't read.
func TestNothingIsWritten(t *testing.T) {
	for _, text := range []string{manyLists, manyLists + " type user", manyLists + " cond m(): 1", manyLists + " type x relation r: [doc, doc]", manyLists + " type x relation r: [x] not r", ""} {
		s := roomySchema(read(t, text))
		rows := rowsOfSchema(s)
		want := behind(rows)
		for range 2 {
			wantFault(t, s, faultOf(s))
		}
		if !slices.Equal(behind(rows), want) {
			t.Errorf("%s: written", text)
		}
	}
}

// DOC.md, Memory: a list that is nil and one that is empty are the same.
func TestNilAndEmpty(t *testing.T) {
	s := read(t, "type a type b relation r: [a] or r cond c(): true")
	s.Types[0].Relations = []api.Relation{}
	s.Types[1].Relations[0].Rewrite[0].Allow = []api.Allow{}
	s.Types[1].Relations[0].Rewrite[2].Allow = []api.Allow{}
	s.Conds[0].Params = []api.Param{}
	s.Conds[0].Expr[0].Value.Texts = []string{}
	wantModel(t, s)
	s.Types[0].Relations, s.Types[1].Relations[0].Rewrite[0].Allow, s.Types[1].Relations[0].Rewrite[2].Allow = nil, nil, nil
	s.Conds[0].Params, s.Conds[0].Expr[0].Value.Texts = nil, nil
	wantModel(t, s)
}

// P9.5: two models know nothing of one another, though they were made of the same lists.
func TestTwoModels(t *testing.T) {
	s := read(t, manyLists)
	one := taken(t, s)
	all := whole(one)
	s.Types[2].Relations[1].Name = "banned"
	s.Types[2].Relations[2].Rewrite = s.Types[2].Relations[1].Rewrite
	two := taken(t, s)
	if whole(one) != all || two.Number("doc", "banned") != 3 || one.Number("doc", "banned") != -1 || one.Number("doc", "blocked") != 3 || two.Stratum(4) != 0 || one.Stratum(4) != 1 {
		t.Error(whole(one), whole(two))
	}
}

// DOC.md, Sameness: the same call answers the same, whatever else runs, of the same model too.
func TestSideBySide(t *testing.T) {
	s := read(t, manyLists)
	bad := read(t, manyLists+" type x relation r: [x] relation q: r not q")
	m := taken(t, s)
	want := whole(m)
	var all sync.WaitGroup
	for range 8 {
		all.Go(func() {
			for range 50 {
				n, f := schema.Of(s)
				_, g := schema.Of(bad)
				if f.Err != api.OK || whole(n) != want || whole(m) != want || g != fault(api.ErrStrata, 4, 1, -1) {
					t.Error("an answer differs while others run")
				}
			}
		})
	}
	all.Wait()
}
