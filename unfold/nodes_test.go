package unfold_test

import (
	"testing"

	"latchkey/api"
	"latchkey/store"
)

// waysText has a way to several types, of which not all have the relations that are asked for there.
const waysText = `type user
type bot
  relation owner: [user]
type team
  relation member: [user, user:*, bot, team#member]
type folder
  relation up: [folder, team, bot, user]
  relation owner: [user, team#member]
  relation member: member from up
  relation held: owner from up
  relation all: (held or member) and owner`

// P18.1: a NodeThis names whomever its tuples name, of every kind, rising; nobody is looked for in sets and in all of a type.
func TestThis(t *testing.T) {
	src := snapOf(t, waysText, "team:a#member@user:zoe", "team:a#member@user:*", "team:a#member@user:ann", "team:a#member@bot:1", "team:a#member@team:b#member", "team:a#member@team:a#member", "team:b#member@user:cat", "team:a#member@user:Ann", "team:a#member@user:ann1", "folder:a#owner@user:dan")
	wantSubjects(t, wantOf(t, src, "team:a member", nil, 1, "this team:a member bot:1 team:a#member team:b#member user:* user:Ann user:ann user:ann1 user:zoe"),
		"bot:1", "team:a#member", "team:b#member", "user:*", "user:Ann", "user:ann", "user:ann1", "user:zoe")
	wantOf(t, src, "folder:b owner", nil, 16, "this folder:b owner")
	wantOf(t, src, "bot:a owner", nil, 1, "this bot:a owner")
}

// P18.1: a NodeFrom leads to those whose type has the relation, as they rise, and to nobody else.
func TestFromSeveralTypes(t *testing.T) {
	src := snapOf(t, waysText, "folder:1#up@user:a", "folder:1#up@team:b", "folder:1#up@folder:3", "folder:1#up@folder:2", "folder:1#up@bot:1", "folder:1#up@team:a", "bot:1#owner@user:ann", "folder:2#owner@user:bob", "folder:3#owner@team:a#member", "team:b#member@user:cat")
	l := wantOf(t, src, "folder:1 held", nil, 2,
		"from folder:1 up 3", "this bot:1 owner user:ann", "this folder:2 owner user:bob", "this folder:3 owner team:a#member")
	wantSubjects(t, l, "team:a#member", "user:ann", "user:bob")
	l = wantOf(t, src, "folder:1 member", nil, 2,
		"from folder:1 up 4", "from folder:2 up", "from folder:3 up", "this team:a member", "this team:b member user:cat")
	wantSubjects(t, l, "user:cat")
	wantOf(t, src, "folder:1 member", nil, 1, "from folder:1 up cut")
}

// P18.1: a NodeFrom is cut just where a tuple would lead on: not where there is none, nor where its one is of a type without the relation, nor where it doesn't count.
func TestCutOrNobody(t *testing.T) {
	src := snapOf(t, waysText, "folder:1#up@user:a", "folder:2#up@team:a", "folder:3#up@bot:1", "folder:4#up@folder:1")
	wantOf(t, src, "folder:0 held", nil, 1, "from folder:0 up")
	wantOf(t, src, "folder:1 held", nil, 1, "from folder:1 up")
	wantOf(t, src, "folder:2 held", nil, 1, "from folder:2 up")
	wantOf(t, src, "folder:3 held", nil, 1, "from folder:3 up cut")
	wantOf(t, src, "folder:4 held", nil, 1, "from folder:4 up cut")
	wantOf(t, src, "folder:2 member", nil, 1, "from folder:2 up cut")
	wantOf(t, src, "folder:3 member", nil, 1, "from folder:3 up")
	wantOf(t, src, "folder:4 member", nil, 2, "from folder:4 up 1", "from folder:1 up")
	// What is cut has no tuple asked: the NodeSames are cut whatever there is.
	wantOf(t, src, "folder:0 all", nil, 1, "and folder:0 all 2", "or folder:0 all 2", "same folder:0 held cut", "same folder:0 member cut", "same folder:0 owner cut")
}

// P18.1: one tuple that counts is enough to be cut, whatever stands ahead of it.
func TestCutByTheLast(t *testing.T) {
	src := snapOf(t, `type user
type a
  relation r: [user]
type b
  relation w: [a with late, b, user]
  relation r: r from w
cond late(at: int): at > 9`, "b:1#w@b:1", "b:2#w@a:1 with late", "b:3#w@a:1 with late", "b:3#w@a:2 with late{at: 12}", "b:3#w@user:a", "b:4#w@user:a", "b:5#w@a:9 with late{at: 3}", "b:5#w@b:6")
	wantOf(t, src, "b:1 r", nil, 1, "from b:1 w cut")
	wantOf(t, src, "b:2 r", nil, 1, "from b:2 w")
	wantOf(t, src, "b:2 r", with("at: 9"), 1, "from b:2 w")
	wantOf(t, src, "b:2 r", with("at: 10"), 1, "from b:2 w cut")
	wantOf(t, src, "b:3 r", nil, 1, "from b:3 w cut")
	wantOf(t, src, "b:3 r", with("at: 10"), 2, "from b:3 w 2", "this a:1 r", "this a:2 r")
	wantOf(t, src, "b:4 r", nil, 1, "from b:4 w")
	wantOf(t, src, "b:5 r", with("at: 10"), 2, "from b:5 w 1", "from b:6 w")
}

// P18.1: relations that come of one another in rings are gone on with until it is deep enough, each by each.
func TestRings(t *testing.T) {
	src := snapOf(t, "type t relation a: b relation b: a relation c: c relation d: [t] and e relation e: d or a", "t:1#d@t:2")
	wantOf(t, src, "t:1 a", nil, 1, "same t:1 b cut")
	wantOf(t, src, "t:1 a", nil, 4, "same t:1 b 1", "same t:1 a 1", "same t:1 b 1", "same t:1 a cut")
	wantOf(t, src, "t:1 c", nil, 2, "same t:1 c 1", "same t:1 c cut")
	wantOf(t, src, "t:1 e", nil, 3,
		"or t:1 e 2",
		"same t:1 d 1", "and t:1 d 2", "this t:1 d t:2", "same t:1 e 1", "or t:1 e 2", "same t:1 d cut", "same t:1 a cut",
		"same t:1 a 1", "same t:1 b 1", "same t:1 a cut")
	for deep := 1; deep <= api.MaxDeep; deep++ {
		l := unfolding(t, src, grant("t:1 c"), nil, deep)
		if len(l) != deep || !l[deep-1].Cut {
			t.Errorf("%d: %q", deep, linesOf(l))
		}
	}
}

// P18.1: ways that lead back are gone again, until it is deep enough.
func TestRingsOfWays(t *testing.T) {
	src := snapOf(t, "type user type doc relation up: [doc] relation view: [user] or view from up", "doc:1#up@doc:2", "doc:2#up@doc:1", "doc:1#view@user:a", "doc:3#up@doc:3", "doc:4#up@doc:5")
	wantOf(t, src, "doc:1 view", nil, 3,
		"or doc:1 view 2", "this doc:1 view user:a", "from doc:1 up 1",
		"or doc:2 view 2", "this doc:2 view", "from doc:2 up 1",
		"or doc:1 view 2", "this doc:1 view user:a", "from doc:1 up cut")
	wantOf(t, src, "doc:3 view", nil, 2, "or doc:3 view 2", "this doc:3 view", "from doc:3 up 1", "or doc:3 view 2", "this doc:3 view", "from doc:3 up cut")
	for _, deep := range []int{2, 3, 16} {
		wantSubjects(t, wantOf(t, src, "doc:4 view", nil, deep, "or doc:4 view 2", "this doc:4 view", "from doc:4 up 1", "or doc:5 view 2", "this doc:5 view", "from doc:5 up"))
	}
}

// P18.1: as many nodes in one another as there may be, and as many in a row.
func TestNodesInOneAnother(t *testing.T) {
	text, kind := "[user]", []string{" or ", " and ", " not "}
	want := []string{}
	for i := range api.MaxDeep - 1 {
		text = "(" + text + ")" + kind[i%3] + "c"
		want = append([]string{[]string{"or", "and", "not"}[i%3] + " t:1 r 2"}, want...)
	}
	src := snapOf(t, "type user type t relation c: [user] relation r: "+text, "t:1#r@user:a", "t:1#c@user:b")
	want = append(want, "this t:1 r user:a")
	for range api.MaxDeep - 1 {
		want = append(want, "same t:1 c 1", "this t:1 c user:b")
	}
	wantOf(t, src, "t:1 r", nil, 2, want...)
	row, want := "[user]", []string{"or t:1 r 63", "this t:1 r user:a"}
	for range api.MaxNodes - 2 {
		row += " or c"
		want = append(want, "same t:1 c 1", "this t:1 c user:b")
	}
	src = snapOf(t, "type user type t relation c: [user] relation r: "+row, "t:1#r@user:a", "t:1#c@user:b")
	wantSubjects(t, wantOf(t, src, "t:1 r", nil, 2, want...), "user:a", "user:b")
}

// officeText has a condition wherever one can stand.
const officeText = `type user
type team
  relation member: [user with office, user:* with office, team#member with office]
type doc
  relation home: [team with office, team]
  relation viewer: member from home
cond office(at: int, on: text): at >= 9 and on == "mon"`

// P18.1: a tuple counts if its condition is met by its own arguments, and behind them by the question's.
func TestCounts(t *testing.T) {
	const at10, at8, mon, tue = "at: 10", "at: 8", `on: "mon"`, `on: "tue"`
	for _, x := range []struct {
		own, ctx string
		want     bool
	}{
		{at10 + ", " + mon, "", true},
		{at10 + ", " + tue, "", false},
		{"", at10 + ", " + mon, true},
		{"", at8 + ", " + mon, false},
		{at10, mon, true},
		{at10, tue, false},
		{mon, at10, true},
		{mon, at8, false},
		// The tuple's own go ahead, for it and against it.
		{at10, at8 + ", " + mon, true},
		{at8, at10 + ", " + mon, false},
		{at10 + ", " + mon, at8 + ", " + tue, true},
		{tue, at10 + ", " + mon, false},
		// Some are missing, or of another kind.
		{"", "", false},
		{"", at10, false},
		{"", mon, false},
		{at10, "", false},
		{mon, "at: 10.0", false},
		{mon, `at: "10"`, false},
		{at10, "on: [\"mon\"]", false},
		// Others say nothing.
		{"", at10 + ", by: 1, " + mon, true},
		{"", "a: true, " + at10 + ", " + mon + ", z: nan", true},
	} {
		cond := " with office"
		if x.own != "" {
			cond += "{" + x.own + "}"
		}
		src := snapOf(t, officeText, "team:a#member@user:ann"+cond, "team:a#member@user:*"+cond, "team:a#member@team:b#member"+cond, "doc:1#home@team:a"+cond)
		var ctx []api.Arg
		if x.ctx != "" {
			ctx = with(x.ctx)
		}
		if x.want {
			wantOf(t, src, "doc:1 viewer", ctx, 1, "from doc:1 home cut")
			wantOf(t, src, "doc:1 viewer", ctx, 2, "from doc:1 home 1", "this team:a member team:b#member user:* user:ann")
		} else {
			wantOf(t, src, "doc:1 viewer", ctx, 1, "from doc:1 home")
			wantOf(t, src, "doc:1 viewer", ctx, 2, "from doc:1 home")
			wantOf(t, src, "team:a member", ctx, 2, "this team:a member")
		}
	}
}

// P18.1: over an overlay what is laid is counted in, what is taken away isn't, and the source goes on as it was; a snapshot tells its own revision.
func TestOverlay(t *testing.T) {
	src := snapOf(t, officeText, "team:a#member@user:ann with office{at: 9}", "team:a#member@user:bob with office", "doc:1#home@team:a", "doc:1#home@team:b with office")
	up := laid(t, src, facts("team:a#member@user:ann with office", "team:b#member@user:cat with office{on: \"mon\"}", "doc:1#home@team:b"), facts("team:a#member@user:bob with office", "doc:1#home@team:a"))
	late := with(`at: 12, on: "mon"`)
	low := []string{"from doc:1 home 2", "this team:a member user:ann user:bob", "this team:b member"}
	wantOf(t, src, "doc:1 viewer", late, 2, low...)
	wantOf(t, up, "doc:1 viewer", late, 2, "from doc:1 home 1", "this team:b member user:cat")
	wantOf(t, up, "team:a member", with(`on: "mon"`), 2, "this team:a member")
	wantOf(t, src, "team:a member", with(`on: "mon"`), 2, "this team:a member user:ann")
	back := laid(t, up, facts("team:a#member@user:ann with office{at: 9}", "team:a#member@user:bob with office", "doc:1#home@team:a", "doc:1#home@team:b with office"), facts("team:b#member@user:cat with office"))
	wantOf(t, back, "doc:1 viewer", late, 2, low...)
}

// P18.1: a snapshot answers of its own revision, whatever is written behind it.
func TestSnapshotsStay(t *testing.T) {
	s, _ := store.New(model(t, exampleText), api.Limits{Tuples: 100, Keep: 1}, 0)
	var l []*store.Snap
	write := func(kind int, text string) {
		if _, e := s.Write([]api.Change{{Kind: kind, Tuple: fact(text)}}, nil); e != api.OK {
			t.Fatal(text, e)
		}
		snap, _ := s.Snap(s.Newest())
		l = append(l, snap)
	}
	write(api.ChangeInsert, "team:a#member@user:ann")
	write(api.ChangeInsert, "team:a#member@user:Zoe")
	write(api.ChangeDelete, "team:a#member@user:ann")
	for i, want := range []string{"user:ann", "user:Zoe user:ann", "user:Zoe"} {
		wantOf(t, l[i], "team:a member", nil, 1, "this team:a member "+want)
	}
}
