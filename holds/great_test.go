package holds_test

import (
	"fmt"
	"strings"
	"testing"

	"latchkey/api"
	"latchkey/store"
)

// wantCount asks for so many grants of s, in as many layers as that.
func wantCount(t *testing.T, src store.Source, s string, want ...int) {
	t.Helper()
	l := layers(t, src, subject(s), nil)
	var got []int
	sum := 0
	for _, x := range l {
		got = append(got, len(x))
		sum += len(x)
	}
	if fmt.Sprint(got) != fmt.Sprint(want) {
		t.Errorf("%s: %d, want %d", s, got, want)
	}
	if n := len(of(t, src, subject(s), nil)); n != sum {
		t.Errorf("%s: %d grants, want %d", s, n, sum)
	}
}

// As many tuples as a store may have, in one long way of sets, and in a ring of them.
func TestLongWayOfSets(t *testing.T) {
	const most = api.MaxTuples
	m := model(t, "type user type team relation member: [user, team#member] relation guest: [user:*] relation open: guest not member")
	var l []api.Tuple
	for i := range most - 2 {
		l = append(l, fact(fmt.Sprintf("team:%d#member@team:%d#member", i+1, i)))
	}
	src := snapWith(t, m, append(l, fact("team:0#member@user:ann"), fact("team:9#guest@user:*")))
	wantCount(t, src, "user:ann", most, 0)
	wantCount(t, src, "user:bob", 1, 1)
	wantCount(t, src, "team:60000#member", most-1-60000, 0)
	src2 := laid(t, src, facts(fmt.Sprintf("team:0#member@team:%d#member", most-2)), nil)
	wantCount(t, src2, "team:60000#member", most-1, 0)
	if !has(t, src2, subject("team:60000#member"), nil, grant("team:59999 member")) || has(t, src, subject("team:60000#member"), nil, grant("team:59999 member")) {
		t.Error("the ring's end")
	}
}

// A long way by From, and what is taken away along it.
func TestLongWayOfObjects(t *testing.T) {
	const most = api.MaxTuples
	m := model(t, "type user type doc relation up: [doc] relation blocked: [user] or blocked from up relation viewer: [user] or viewer from up relation reader: viewer not blocked")
	var l []api.Tuple
	for i := range most - 2 {
		l = append(l, fact(fmt.Sprintf("doc:%d#up@doc:%d", i+1, i)))
	}
	src := snapWith(t, m, append(l, fact("doc:0#viewer@user:ann"), fact("doc:65000#blocked@user:ann")))
	wantCount(t, src, "user:ann", most-1+most-1-65000, 65000)
	wantCount(t, src, "doc:65000#viewer", most-1-65000, most-1-65000)
}

// One object with as many sets as there may be tuples, all of which one has, one after the other, and that isn't enough until the last.
func TestWideObject(t *testing.T) {
	const sets = 21000
	m := model(t, "type user type team relation member: [user, team#member] type doc relation home: [team] relation last: [team#member] relation viewer: [team#member] and last and (member from home)")
	var l []api.Tuple
	for i := range sets {
		l = append(l, fact(fmt.Sprintf("doc:1#viewer@team:%d#member", i)), fact(fmt.Sprintf("doc:1#home@team:%d", i)), fact(fmt.Sprintf("team:%d#member@team:%d#member", i+1, i)))
	}
	src := snapWith(t, m, append(l, fact("team:0#member@user:ann"), fact(fmt.Sprintf("doc:1#last@team:%d#member", sets))))
	wantCount(t, src, "user:ann", sets+1+2)
	wantCount(t, laid(t, src, nil, facts(fmt.Sprintf("doc:1#last@team:%d#member", sets))), "user:ann", sets+1)
}

// As many tuples of one subject as there may be, all under conditions.
func TestManyConds(t *testing.T) {
	m := model(t, "type user type doc relation r: [user with c] cond c(n: int): n > 1")
	var l []api.Tuple
	for i := range api.MaxTuples {
		l = append(l, fact(fmt.Sprintf("doc:%d#r@user:ann with c{n: %d}", i, i%4)))
	}
	src := snapWith(t, m, l)
	wantCount(t, src, "user:ann", api.MaxTuples/2)
}

// A rewrite of as many nodes as there may be: each of them lets in, the last one too, and each can be the one that doesn't.
func TestMostNodes(t *testing.T) {
	var b strings.Builder
	b.WriteString("type user")
	kinds := []string{"and", "or"}
	for n, joint := range kinds {
		fmt.Fprintf(&b, " type t%d", n)
		for i := range 31 {
			fmt.Fprintf(&b, " relation a%d: [user]", i)
		}
		// The first node, 62 names, and a this behind them.
		b.WriteString(" relation r: a0")
		for i := 1; i < 62; i++ {
			fmt.Fprintf(&b, " %s a%d", joint, i%31)
		}
		fmt.Fprintf(&b, " %s [user]", joint)
	}
	m := model(t, b.String())
	if n := m.Number("t0", "r"); len(m.Rewrite(n)) != api.MaxNodes || len(m.Rewrite(m.Number("t1", "r"))) != api.MaxNodes {
		t.Fatal(len(m.Rewrite(n)))
	}
	names := []string{"r"}
	for i := range 31 {
		names = append(names, fmt.Sprintf("a%d", i))
	}
	var all []api.Tuple
	for _, name := range names {
		all = append(all, fact("t0:1#"+name+"@user:ann"))
	}
	src := snapWith(t, m, all[1:])
	if has(t, src, subject("user:ann"), nil, grant("t0:1 r")) || !has(t, laid(t, src, all[:1], nil), subject("user:ann"), nil, grant("t0:1 r")) {
		t.Error("the last node of an and")
	}
	src = snapWith(t, m, all)
	for i, name := range names {
		if has(t, laid(t, src, nil, all[i:i+1]), subject("user:ann"), nil, grant("t0:1 r")) {
			t.Errorf("without %s", name)
		}
		one := fact("t1:1#" + name + "@user:ann")
		if !has(t, laid(t, src, []api.Tuple{one}, nil), subject("user:ann"), nil, grant("t1:1 r")) {
			t.Errorf("by %s", name)
		}
	}
	if has(t, src, subject("user:ann"), nil, grant("t1:1 r")) {
		t.Error("by nothing")
	}
}

// A rewrite as deep as there may be: one node within another, each kind by turns.
func TestDeepestRewrite(t *testing.T) {
	rewrite, want := "b", true
	for i := range api.MaxDeep - 1 {
		switch i % 3 {
		case 0:
			rewrite, want = "a not ("+rewrite+")", !want
		case 1:
			rewrite = "a and (" + rewrite + ")"
		default:
			rewrite = "n or (" + rewrite + ")"
		}
	}
	text := "type user type doc relation n: [user] relation a: [user] relation b: [user] relation r: "
	src := snapOf(t, text+rewrite, "doc:1#a@user:ann", "doc:1#b@user:ann", "doc:2#a@user:ann")
	if has(t, src, subject("user:ann"), nil, grant("doc:1 r")) != want || has(t, src, subject("user:ann"), nil, grant("doc:2 r")) != !want {
		t.Error(rewrite)
	}
}

// As many types and relations as there may be, with a way through all of them.
func TestMostPlaces(t *testing.T) {
	var b strings.Builder
	b.WriteString("type user ")
	var l []string
	for i := range 31 {
		fmt.Fprintf(&b, "type t%d relation w: [t%d] ", i, max(i-1, 0))
		for k := range 31 {
			switch {
			case k > 0:
				fmt.Fprintf(&b, "relation r%d: r%d ", k, k-1)
			case i > 0:
				b.WriteString("relation r0: r30 from w ")
				l = append(l, fmt.Sprintf("t%d:1#w@t%d:1", i, i-1))
			default:
				b.WriteString("relation r0: [user] ")
			}
		}
	}
	src := snapOf(t, b.String(), append(l, "t0:1#r0@user:ann")...)
	wantCount(t, src, "user:ann", 31*31)
	wantCount(t, src, "t30:1#r7", 24)
	wantCount(t, src, "t5:1", 1)
}

// Any argument: a great many overlays, one over the other, end in an answer.
func TestDeepOverlays(t *testing.T) {
	src := store.Source(example(t))
	for i := range 2000 {
		if i%500 == 0 {
			src = laid(t, src, facts(fmt.Sprintf("team:d%d#member@team:a#member", i)), nil)
		}
		src = laid(t, src, nil, nil)
	}
	wantCount(t, src, "user:ann", 10, 1)
}
