package conds_test

import (
	"fmt"
	"testing"

	"latchkey/api"
	"latchkey/conds"
)

// row is one list of an answer, or of what is handed in: what it holds (but for the lists in it, which are rows of their own), and how to write all over it and the room behind it.
type row struct {
	told   func() string
	behind func() string
	scrawl func()
}

func rowOf[T any](l []T, tell func(x T) string, scrawl T) row {
	told := func(l []T) string {
		s := ""
		for _, x := range l {
			s += tell(x) + "|"
		}
		return s
	}
	return row{
		told:   func() string { return told(l) },
		behind: func() string { return told(l[:cap(l)]) },
		scrawl: func() {
			l = l[:cap(l)]
			for i := range l {
				l[i] = scrawl
			}
		},
	}
}

func tellText(s string) string { return s }

func bare(v api.Value) string {
	n := len(v.Texts)
	v.Texts = nil
	return fmt.Sprint(v, n)
}

func rowsOfCond(c api.Cond) []row {
	rows := []row{
		rowOf(c.Params, func(p api.Param) string { return fmt.Sprint(p) }, api.Param{Name: "scrawl"}),
		rowOf(c.Expr, func(x api.Part) string { return fmt.Sprint(x.Kind, x.Name, bare(x.Value)) }, api.Part{Kind: 99}),
	}
	for _, x := range c.Expr {
		rows = append(rows, rowOf(x.Value.Texts, tellText, "scrawl"))
	}
	return rows
}

func rowsOfArgs(l []api.Arg) []row {
	rows := []row{rowOf(l, func(x api.Arg) string { return x.Name + bare(x.Value) }, api.Arg{Name: "scrawl"})}
	for _, x := range l {
		rows = append(rows, rowOf(x.Value.Texts, tellText, "scrawl"))
	}
	return rows
}

// roomy is a copy of a list with something in the room behind its end; of an empty one too.
func roomy[T any](l []T, behind T) []T {
	return append(append(make([]T, 0, len(l)+2), l...), behind, behind)[:len(l)]
}

// roomyCond is a condition each of whose lists has something in the room behind its end: those too that are empty since their part or value has none.
func roomyCond(c api.Cond) api.Cond {
	c.Params, c.Expr = roomy(c.Params, api.Param{Name: "Behind"}), roomy(c.Expr, api.Part{Kind: 99})
	for i := range c.Expr {
		c.Expr[i].Value.Texts = roomy(c.Expr[i].Value.Texts, "Behind")
	}
	return c
}

func roomyArgs(l []api.Arg) []api.Arg {
	l = roomy(l, api.Arg{Name: "Behind"})
	for i := range l {
		l[i].Value.Texts = roomy(l[i].Value.Texts, "Behind")
	}
	return l
}

// manyLists is a condition of which much is folded, a list that is read twice among it, and much stays.
const manyLists = `cond c(l: texts, t: text, n: int, m: int, k: texts): t in l or (t in l or k == ["a", "b"]) or k == ["a", "b"] or k != [] or n / 0 < m or ["c"] == ["c"]`

func someArgs() []api.Arg {
	return args(arg("l", list("a", "b", "c")), arg("n", integer(3)), arg("z", list("q")))
}

func told(rows []row) []string {
	var l []string
	for _, r := range rows {
		l = append(l, r.told())
	}
	return l
}

// DOC.md, Memory: each list that goes out is the caller's, the room behind it too: it has nothing in common with another one of the same answer, with another answer, with what came in.
func TestAnswersAreTheCallers(t *testing.T) {
	c, l := roomyCond(read(t, manyLists)), roomyArgs(someArgs())
	for name, answer := range map[string]func() []row{
		"Fold": func() []row {
			d, e := conds.Fold(c, l)
			if e != api.OK {
				t.Fatal(e)
			}
			return rowsOfCond(d)
		},
		"Fold with nothing": func() []row {
			d, _ := conds.Fold(c, nil)
			return rowsOfCond(d)
		},
		"Fold of a value": func() []row {
			d, _ := conds.Fold(roomyCond(of(nil, value(boolean(true)))), nil)
			return rowsOfCond(d)
		},
		"Reads": func() []row { return []row{rowOf(conds.Reads(c), tellText, "scrawl")} },
		"Eval": func() []row {
			m, _ := conds.Eval(c, l)
			return []row{rowOf(m.Lacks, tellText, "scrawl")}
		},
	} {
		given := append(rowsOfCond(c), rowsOfArgs(l)...)
		var kept []string
		for _, r := range given {
			kept = append(kept, r.behind())
		}
		for i := range answer() {
			one, two := answer(), answer()
			want := told(one)
			one[i].scrawl()
			three := answer()
			for j := range one {
				if i != j && one[j].told() != want[j] || two[j].told() != want[j] || three[j].told() != want[j] {
					t.Errorf("%s: what was written into row %d shows in row %d: %s, %s, %s, not %s", name, i, j, one[j].told(), two[j].told(), three[j].told(), want[j])
				}
			}
			for j, r := range given {
				if r.behind() != kept[j] {
					t.Fatalf("%s: what was written into row %d shows in what came in, row %d: %s, not %s", name, i, j, r.behind(), kept[j])
				}
			}
		}
	}
}

// DOC.md, Memory: what was answered doesn't change with what came in.
func TestAnswersAreKept(t *testing.T) {
	c, l := roomyCond(read(t, manyLists)), roomyArgs(someArgs())
	d, _ := conds.Fold(c, l)
	m, _ := conds.Eval(c, l)
	reads := conds.Reads(c)
	answers := append(rowsOfCond(d), rowOf(m.Lacks, tellText, ""), rowOf(reads, tellText, ""))
	var want []string
	for _, r := range answers {
		want = append(want, r.behind())
	}
	for _, r := range append(rowsOfCond(c), rowsOfArgs(l)...) {
		r.scrawl()
	}
	for i, r := range answers {
		if r.behind() != want[i] {
			t.Errorf("row %d was %s, is %s", i, want[i], r.behind())
		}
	}
}

// DOC.md, Memory: no list that comes in is written, nor the room behind its end; and that room isn't read.
func TestNothingIsWritten(t *testing.T) {
	c, l := roomyCond(read(t, manyLists)), roomyArgs(someArgs())
	whole := roomyArgs(args(arg("k", list("a", "b")), arg("l", list("x")), arg("m", integer(1)), arg("n", integer(1)), arg("t", text("x"))))
	bad := roomyCond(read(t, "cond c(n: int, n: int): [\"a\"] == n"))
	rows := append(append(rowsOfCond(c), rowsOfCond(bad)...), append(rowsOfArgs(l), rowsOfArgs(whole)...)...)
	var want []string
	for _, r := range rows {
		want = append(want, r.behind())
	}
	for range 2 {
		wantFault(t, c, api.Fault{})
		wantFault(t, bad, fault(api.ErrTwice, 1))
		wantRefused(t, bad, l, api.ErrTwice, api.ErrTwice, api.ErrTwice)
		wantRefused(t, c, l, api.OK, api.OK, api.ErrParam)
		wantRefused(t, c, whole, api.OK, api.OK, api.OK)
		wantEval(t, c, l, api.Met{Lacks: []string{"k", "m", "t"}})
		wantEval(t, c, whole, api.Met{})
		conds.Reads(c)
		conds.Reads(bad)
	}
	for i, r := range rows {
		if r.behind() != want[i] {
			t.Errorf("row %d was written: %s, not %s", i, r.behind(), want[i])
		}
	}
}

// DOC.md, Memory: a list that is nil and one that is empty are the same.
func TestNilAndEmpty(t *testing.T) {
	c := api.Cond{Name: "c", Params: []api.Param{}, Expr: value(api.Value{Kind: api.ValBool, Bool: true, Texts: []string{}})}
	wantFault(t, c, api.Fault{})
	for _, l := range [][]api.Arg{nil, {}} {
		wantEval(t, c, l, api.Met{Known: true, Met: true})
		wantFold(t, c, l, of(nil, value(boolean(true))))
		wantRefused(t, c, l, api.OK, api.OK, api.OK)
	}
	d := read(t, "cond c(l: texts): l == []")
	for _, v := range []api.Value{{Kind: api.ValTexts}, {Kind: api.ValTexts, Texts: []string{}}} {
		wantEval(t, d, args(arg("l", v)), api.Met{Known: true, Met: true})
		wantFold(t, d, args(arg("l", v)), of(d.Params, value(boolean(true))))
	}
	wantFault(t, of(nil, []api.Part{}), fault(api.ErrTree, 0))
}

// DOC.md, Sameness: the same call answers the same, whatever else runs.
func TestSideBySide(t *testing.T) {
	c, l := read(t, manyLists), someArgs()
	met, _ := conds.Eval(c, l)
	fold, _ := conds.Fold(c, l)
	done := make(chan bool)
	for range 8 {
		go func() {
			ok := true
			for range 200 {
				m, e := conds.Eval(c, l)
				d, f := conds.Fold(c, l)
				ok = ok && e == api.OK && f == api.OK && sameMet(m, met) && sameCond(d, fold) && conds.Check(c) == api.Fault{} && conds.Fits(c, l) == api.ErrParam && len(conds.Reads(c)) == 5
			}
			done <- ok
		}()
	}
	for range 8 {
		if !<-done {
			t.Error("an answer differs while others run")
		}
	}
}
