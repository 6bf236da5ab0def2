package check_test

import (
	"fmt"
	"strings"
	"testing"

	"latchkey/api"
	"latchkey/store"
)

// wantGreat asks for one answer, with its steps and one less, of Ask and of an Asker; the steps are at most so many.
func wantGreat(t *testing.T, src store.Source, s, g string, want bool, steps int) {
	t.Helper()
	q := query(src, grant(g), subject(s), nil)
	v := ask(t, src, q)
	if v.Held != want || v.Steps > steps {
		t.Errorf("%s has %s: %+v", s, g, v)
	}
	wantBudget(t, src, q, v, v.Steps-1, v.Steps)
	a := asker(t, src, subject(s), nil)
	if w, e := a.Ask(q.Object, q.Rel, v.Steps/2); v.Steps > 1 && (e != api.ErrBudget || w != api.Verdict{Steps: v.Steps / 2, Err: e}) {
		t.Errorf("%s has %s: %+v with half of its steps", s, g, w)
	}
	if w, e := a.Ask(q.Object, q.Rel, q.Budget); e != api.OK || w.Held != want {
		t.Errorf("%s has %s: %+v of an Asker", s, g, w)
	}
	if w, e := a.Ask(q.Object, q.Rel, 1); e != api.OK || w.Held != want || w.Steps != 1 {
		t.Errorf("%s has %s: %+v of an Asker that knows it", s, g, w)
	}
}

// As many tuples as a store may have, in one long way of sets, and in a ring of them: a way may be long, and its steps are some a tuple.
func TestLongWayOfSets(t *testing.T) {
	const most = api.MaxTuples
	m := model(t, "type user type team relation member: [user, team#member] relation guest: [user:*] relation open: guest not member")
	var l []api.Tuple
	for i := range most - 2 {
		l = append(l, fact(fmt.Sprintf("team:%d#member@team:%d#member", i+1, i)))
	}
	last := fmt.Sprintf("team:%d", most-2)
	src := snapWith(t, m, append(l, fact("team:0#member@user:ann"), fact(last+"#guest@user:*")))
	wantGreat(t, src, "user:ann", last+" member", true, 10*most)
	wantGreat(t, src, "user:bob", last+" member", false, 10*most)
	wantGreat(t, src, "user:ann", last+" open", false, 10*most)
	wantGreat(t, src, "user:bob", last+" open", true, 10*most)
	wantGreat(t, src, "team:60000#member", last+" member", true, 10*most)
	wantGreat(t, src, "team:60000#member", "team:59999 member", false, 10*most)
	ring := laid(t, src, facts("team:0#member@"+last+"#member"), nil)
	wantGreat(t, ring, "team:60000#member", "team:59999 member", true, 10*most)
	wantGreat(t, ring, "user:bob", "team:7 member", false, 10*most)
	wantGreat(t, ring, "user:ann", "team:7 member", true, 200)
}

// A long way of objects on each of which there are as many relations as there may be, each by the next one: longer than there are tuples.
func TestLongWayOfRelations(t *testing.T) {
	const objects = 5000
	var b strings.Builder
	b.WriteString("type user type doc relation up: [doc]")
	for i := range 29 {
		fmt.Fprintf(&b, " relation r%d: r%d", i, i+1)
	}
	b.WriteString(" relation r29: [user] or r0 from up relation rest: r0 not r29")
	m := model(t, b.String())
	var l []api.Tuple
	for i := range objects {
		l = append(l, fact(fmt.Sprintf("doc:%d#up@doc:%d", i, i+1)))
	}
	src := snapWith(t, m, append(l, fact(fmt.Sprintf("doc:%d#r29@user:ann", objects))))
	wantGreat(t, src, "user:ann", "doc:0 r0", true, 100*objects)
	wantGreat(t, src, "user:bob", "doc:0 r0", false, 100*objects)
	wantGreat(t, src, "user:ann", "doc:0 rest", false, 100*objects)
}

// A long way by From, and what is taken away along it, from one stratum to the next.
func TestLongWayOfObjects(t *testing.T) {
	const most = 20000
	m := model(t, "type user type doc relation up: [doc] relation blocked: [user] or blocked from up relation viewer: [user] or viewer from up relation reader: viewer not blocked relation other: (viewer or (other from up)) not (reader or (reader from up))")
	var l []api.Tuple
	for i := range most {
		l = append(l, fact(fmt.Sprintf("doc:%d#up@doc:%d", i+1, i)))
	}
	src := snapWith(t, m, append(l, fact("doc:0#viewer@user:ann"), fact("doc:19000#blocked@user:ann")))
	wantGreat(t, src, "user:ann", "doc:18999 reader", true, 100*most)
	wantGreat(t, src, "user:ann", "doc:19000 reader", false, 100*most)
	wantGreat(t, src, "user:ann", "doc:20000 other", true, 100*most)
	wantGreat(t, src, "user:ann", "doc:18999 other", false, 100*most)
	wantGreat(t, src, "doc:19000#viewer", "doc:20000 reader", true, 100*most)
}

// One object with as many sets as there may be: who has the last one, and who has none, in some steps a set.
func TestWideObject(t *testing.T) {
	const sets = 21000
	m := model(t, "type user type team relation member: [user, team#member] type doc relation home: [team] relation last: [team#member] relation viewer: [team#member] and last and (member from home)")
	var l []api.Tuple
	for i := range sets {
		l = append(l, fact(fmt.Sprintf("doc:1#viewer@team:%d#member", i)), fact(fmt.Sprintf("doc:1#home@team:%d", i)), fact(fmt.Sprintf("team:%d#member@team:%d#member", i+1, i)))
	}
	src := snapWith(t, m, append(l, fact("team:0#member@user:ann"), fact(fmt.Sprintf("doc:1#last@team:%d#member", sets))))
	wantGreat(t, src, "user:ann", "doc:1 viewer", true, 20*sets)
	wantGreat(t, src, "user:bob", "doc:1 viewer", false, 20*sets)
	up := laid(t, src, nil, facts(fmt.Sprintf("doc:1#last@team:%d#member", sets)))
	wantGreat(t, up, "user:ann", "doc:1 viewer", false, 20*sets)
}

// As many tuples of one object as there may be: the first one, the last one and none of them.
func TestManyTuples(t *testing.T) {
	m := model(t, "type user type doc relation r: [user with c, user] cond c(n: int): n > 1")
	var l []api.Tuple
	for i := range api.MaxTuples - 1 {
		l = append(l, fact(fmt.Sprintf("doc:1#r@user:%d with c{n: %d}", i, i%4)))
	}
	src := snapWith(t, m, append(l, fact("doc:1#r@user:zoe")))
	wantGreat(t, src, "user:2", "doc:1 r", true, 3*api.MaxTuples)
	wantGreat(t, src, "user:1", "doc:1 r", false, 3*api.MaxTuples)
	wantGreat(t, src, "user:zoe", "doc:1 r", true, 3*api.MaxTuples)
	wantGreat(t, src, "user:nobody", "doc:1 r", false, 3*api.MaxTuples)
}

// A rewrite of as many nodes as there may be: each of them lets in, the last one too, and each can be the one that doesn't.
func TestMostNodes(t *testing.T) {
	var b strings.Builder
	b.WriteString("type user")
	for n, joint := range []string{"and", "or"} {
		fmt.Fprintf(&b, " type t%d", n)
		for i := range 31 {
			fmt.Fprintf(&b, " relation a%d: [user]", i)
		}
		// The first node, 62 names, and a this behind them.
		b.WriteString(" relation r: a0")
		for i := 1; i < 62; i++ {
			fmt.Fprintf(&b, " %s a%d", joint, i%31)
		}
		fmt.Fprintf(&b, " %s [user]", joint)
	}
	m := model(t, b.String())
	if n := m.Number("t0", "r"); len(m.Rewrite(n)) != api.MaxNodes || len(m.Rewrite(m.Number("t1", "r"))) != api.MaxNodes {
		t.Fatal(len(m.Rewrite(n)))
	}
	names := []string{"r"}
	for i := range 31 {
		names = append(names, fmt.Sprintf("a%d", i))
	}
	var all []api.Tuple
	for _, name := range names {
		all = append(all, fact("t0:1#"+name+"@user:ann"))
	}
	src := snapWith(t, m, all)
	wantGreat(t, src, "user:ann", "t0:1 r", true, 5000)
	for i, name := range names {
		wantGreat(t, laid(t, src, nil, all[i:i+1]), "user:ann", "t0:1 r", false, 5000)
		wantGreat(t, snapWith(t, m, facts("t1:1#"+name+"@user:ann")), "user:ann", "t1:1 r", true, 5000)
	}
	wantGreat(t, snapWith(t, m, nil), "user:ann", "t1:1 r", false, 5000)
}

// A rewrite with as many nodes in one another as there may be, each of which takes away.
func TestDeepest(t *testing.T) {
	text := "all"
	for range 14 {
		text = "all not (" + text + ")"
	}
	for i, rewrite := range []string{text, "all not (" + text + ")"} {
		src := snapOf(t, "type user type doc relation all: [user:*] relation r: "+rewrite, "doc:1#all@user:*")
		wantGreat(t, src, "user:ann", "doc:1 r", i == 0, 500)
		wantGreat(t, src, "user:ann", "doc:2 r", false, 500)
		wantGreat(t, src, "doc:1#r", "doc:1 r", true, 1)
	}
}

// As many strata as there can be: one takes away the other, through all types.
func TestMostStrata(t *testing.T) {
	var b strings.Builder
	b.WriteString("type user")
	for n := range 31 {
		fmt.Fprintf(&b, " type t%d relation w: [t%d]", n, max(n-1, 0))
		for i := range 31 {
			switch {
			case i > 0:
				fmt.Fprintf(&b, " relation r%d: [user:*] not r%d", i, i-1)
			case n > 0:
				fmt.Fprintf(&b, " relation r%d: [user:*] not (r30 from w)", i)
			default:
				fmt.Fprintf(&b, " relation r%d: [user]", i)
			}
		}
	}
	m := model(t, b.String())
	if n := m.Stratum(m.Number("t30", "r30")); n != 31*31-1 {
		t.Fatal(n)
	}
	l := facts("t0:1#r0@user:ann")
	for n := range 31 {
		for i := range 31 {
			if n+i > 0 {
				l = append(l, fact(fmt.Sprintf("t%d:1#r%d@user:*", n, i)))
			}
		}
		if n > 0 {
			l = append(l, fact(fmt.Sprintf("t%d:1#w@t%d:1", n, n-1)))
		}
	}
	src := snapWith(t, m, l)
	for _, stratum := range []int{0, 1, 2, 30, 31, 32, 500, 501, 959, 960} {
		place := fmt.Sprintf("t%d:1 r%d", stratum/31, stratum%31)
		wantGreat(t, src, "user:ann", place, stratum%2 == 0, 20000)
		wantGreat(t, src, "user:bob", place, stratum%2 > 0, 20000)
	}
}
