package syntax_test

import (
	"fmt"
	"testing"

	"latchkey/api"
	"latchkey/syntax"
)

// row is one list of an answer, or of what is handed in: what it holds (but for the lists in it, which are rows of their own), and how to write all over it and the room behind it.
type row struct {
	told   func() string
	behind func() string
	scrawl func()
}

func rowOf[T any](l []T, tell func(x T) string, scrawl T) row {
	told := func(l []T) string {
		s := ""
		for _, x := range l {
			s += tell(x) + "|"
		}
		return s
	}
	return row{
		told:   func() string { return told(l) },
		behind: func() string { return told(l[:cap(l)]) },
		scrawl: func() {
			l = l[:cap(l)]
			for i := range l {
				l[i] = scrawl
			}
		},
	}
}

func rowsOfNodes(l []api.Node) []row {
	rows := []row{rowOf(l, func(n api.Node) string { return fmt.Sprint(n.Kind, n.Rel, n.From, n.Kids, len(n.Allow)) }, api.Node{Kind: 9})}
	for _, n := range l {
		rows = append(rows, rowOf(n.Allow, func(a api.Allow) string { return fmt.Sprint(a) }, api.Allow{Type: "scrawl"}))
	}
	return rows
}

func rowsOfParts(l []api.Part) []row {
	tell := func(x api.Part) string {
		texts := len(x.Value.Texts)
		x.Value.Texts = nil
		return fmt.Sprint(x, texts)
	}
	rows := []row{rowOf(l, tell, api.Part{Kind: 99})}
	for _, x := range l {
		rows = append(rows, rowOf(x.Value.Texts, func(s string) string { return s }, "scrawl"))
	}
	return rows
}

func rowsOf(s api.Schema) []row {
	rows := []row{
		rowOf(s.Types, func(t api.Type) string { return fmt.Sprint(t.Name, len(t.Relations)) }, api.Type{Name: "scrawl"}),
		rowOf(s.Conds, func(c api.Cond) string { return fmt.Sprint(c.Name, len(c.Params), len(c.Expr)) }, api.Cond{Name: "scrawl"}),
	}
	for _, t := range s.Types {
		rows = append(rows, rowOf(t.Relations, func(r api.Relation) string { return fmt.Sprint(r.Name, len(r.Rewrite)) }, api.Relation{Name: "scrawl"}))
		for _, r := range t.Relations {
			rows = append(rows, rowsOfNodes(r.Rewrite)...)
		}
	}
	for _, c := range s.Conds {
		rows = append(rows, rowOf(c.Params, func(p api.Param) string { return fmt.Sprint(p) }, api.Param{Name: "scrawl"}))
		rows = append(rows, rowsOfParts(c.Expr)...)
	}
	return rows
}

const manyLists = `
type a relation b: [a, a#b] relation c: ([a] or [a, a:*, a with c]) and (b not c) relation d: b
type b relation b: [a, a#b] relation c: ([a] or [a, a:*, a with c]) and (b not c)
cond c(a: int, b: texts): "a" in ["a", "b"] or ["a", "b"] == ["c"] or [] != b
cond d(a: int, b: texts): "a" in ["a", "b"] or ["a", "b"] == ["c"] or [] != b
type c
cond e(): true`

// wantApart writes over each row of an answer, and asks that no other one changes.
func wantApart(t *testing.T, answer func() []row) {
	t.Helper()
	for i := range answer() {
		one, two := answer(), answer()
		var want []string
		for _, r := range one {
			want = append(want, r.told())
		}
		one[i].scrawl()
		three := answer()
		for j := range one {
			if i != j && one[j].told() != want[j] || two[j].told() != want[j] || three[j].told() != want[j] {
				t.Errorf("what was written into row %d shows in row %d: %s, %s, %s, not %s", i, j, one[j].told(), two[j].told(), three[j].told(), want[j])
			}
		}
	}
}

// DOC.md, Memory: each list that goes out is the caller's, the room behind it too.
func TestAnswersAreTheCallers(t *testing.T) {
	wantApart(t, func() []row {
		s, spot := syntax.Parse(manyLists)
		if spot != (api.Spot{}) {
			t.Fatal(spot)
		}
		return rowsOf(s)
	})
	wantApart(t, func() []row {
		l, _ := syntax.ParseRewrite("([a] or [a, a:*, a with c] or [a]) and (b not c)")
		return rowsOfNodes(l)
	})
	wantApart(t, func() []row {
		l, _ := syntax.ParseExpr(`"a" in ["a", "b"] or ["a", "b", "c"] == ["c"] or [] != b`)
		return rowsOfParts(l)
	})
}

// roomy is a copy of a list with something in the room behind its end.
func roomy[T any](l []T, behind T) []T {
	return append(append(make([]T, 0, len(l)+2), l...), behind, behind)[:len(l)]
}

// roomySchema is a schema each of whose lists has something in the room behind its end.
func roomySchema(s api.Schema) api.Schema {
	s.Types, s.Conds = roomy(s.Types, api.Type{Name: "Behind"}), roomy(s.Conds, api.Cond{Name: "Behind"})
	for i := range s.Types {
		t := &s.Types[i]
		t.Relations = roomy(t.Relations, api.Relation{Name: "Behind"})
		for j := range t.Relations {
			t.Relations[j].Rewrite = roomyNodes(t.Relations[j].Rewrite)
		}
	}
	for i := range s.Conds {
		s.Conds[i].Params = roomy(s.Conds[i].Params, api.Param{Name: "Behind"})
		s.Conds[i].Expr = roomyParts(s.Conds[i].Expr)
	}
	return s
}

func roomyNodes(l []api.Node) []api.Node {
	l = roomy(l, api.Node{Kind: 9})
	for i := range l {
		l[i].Allow = roomy(l[i].Allow, api.Allow{Type: "Behind"})
	}
	return l
}

func roomyParts(l []api.Part) []api.Part {
	l = roomy(l, api.Part{Kind: 99})
	for i := range l {
		l[i].Value.Texts = roomy(l[i].Value.Texts, "Behind")
	}
	return l
}

// DOC.md, Memory: no list that comes in is written, nor the room behind its end; and that room isn't read.
func TestNothingIsWritten(t *testing.T) {
	parsed, _ := syntax.Parse(manyLists)
	own, _ := syntax.Print(parsed)
	s := roomySchema(parsed)
	bad := roomySchema(parsed)
	bad.Conds[2].Expr = roomyParts(minus(param("A")))
	l, x := roomyNodes(s.Types[0].Relations[1].Rewrite), roomyParts(s.Conds[0].Expr)
	rows := append(append(append(rowsOf(s), rowsOf(bad)...), rowsOfNodes(l)...), rowsOfParts(x)...)
	var want []string
	for _, r := range rows {
		want = append(want, r.behind())
	}
	for range 2 {
		wantFault(t, s, api.Fault{})
		wantFault(t, bad, api.Fault{Err: api.ErrName, What: 5, Part: 1, Node: -1})
		if text, e := syntax.Print(s); text != own || e != api.OK || !syntax.Same(s, parsed) || !syntax.Same(parsed, s) || syntax.Same(s, bad) {
			t.Errorf("%s, %v", text, e)
		}
		if text, e := syntax.PrintRewrite(l); text != "([a] or [a, a:*, a with c]) and (b not c)" || e != api.OK {
			t.Errorf("%s, %v", text, e)
		}
		if text, e := syntax.PrintExpr(x); text != `"a" in ["a", "b"] or ["a", "b"] == ["c"] or [] != b` || e != api.OK {
			t.Errorf("%s, %v", text, e)
		}
		syntax.PrintRewrite(l[:3])
		syntax.PrintExpr(x[:3])
	}
	for i, r := range rows {
		if r.behind() != want[i] {
			t.Errorf("row %d was written: %s, not %s", i, r.behind(), want[i])
		}
	}
}

// DOC.md, Sameness: the same call answers the same, whatever else runs.
func TestSideBySide(t *testing.T) {
	s, _ := syntax.Parse(manyLists)
	own, _ := syntax.Print(s)
	done := make(chan bool)
	for range 8 {
		go func() {
			ok := true
			for range 100 {
				got, spot := syntax.Parse(manyLists)
				text, e := syntax.Print(got)
				_, wrong := syntax.Parse(manyLists + " =")
				ok = ok && spot == (api.Spot{}) && e == api.OK && text == own && syntax.Same(got, s) && wrong == api.Spot{Err: api.ErrSyntax, Line: 7, Col: 16} && syntax.Check(s) == api.Fault{}
			}
			done <- ok
		}()
	}
	for range 8 {
		if !<-done {
			t.Error("an answer differs while others run")
		}
	}
}
