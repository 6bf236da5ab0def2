package unfold_test

import (
	"fmt"
	"slices"
	"strings"
	"testing"

	"latchkey/api"
	"latchkey/store"
	"latchkey/unfold"
)

// wantMany asks for an unfolding of so many branches with so many subjects in all.
func wantMany(t *testing.T, src store.Source, g string, deep, branches, subjects int) []api.Branch {
	t.Helper()
	l := unfolding(t, src, grant(g), nil, deep)
	n := 0
	for _, b := range l {
		n += len(b.Subjects)
	}
	if len(l) != branches || n != subjects {
		t.Errorf("Of(%s, %d): %d branches, %d subjects, want %d, %d", g, deep, len(l), n, branches, subjects)
	}
	return l
}

// wide are tuples by which a subject of that form has a relation, from one number to another.
func wide(form string, from, to int) []api.Tuple {
	var l []api.Tuple
	for i := from; i < to; i++ {
		l = append(l, fact(fmt.Sprintf(form, i)))
	}
	return l
}

// P18.1: as many branches as may be told, and one more, by a way that leads to many.
func TestBranchesOfAWay(t *testing.T) {
	m := model(t, `type user
type team
  relation member: [user]
type doc
  relation up: [team]
  relation view: member from up
  relation both: view or both`)
	src := snapWith(t, m, append(wide("doc:1#up@team:%d", 0, api.MaxBranches-1), fact("team:7#member@user:ann")))
	wantSubjects(t, wantMany(t, src, "doc:1 view", 2, api.MaxBranches, 1), "user:ann")
	wantMany(t, src, "doc:1 view", 16, api.MaxBranches, 1)
	wantMany(t, src, "doc:1 view", 1, 1, 0)
	more := laid(t, src, facts("doc:1#up@team:more"), nil)
	for deep := 2; deep <= api.MaxDeep; deep++ {
		wantRefused(t, more, grant("doc:1 view"), nil, deep, api.ErrLong)
		wantRefused(t, src, grant("doc:1 both"), nil, deep+1-deep/16, api.ErrLong)
	}
	wantMany(t, more, "doc:1 view", 1, 1, 0)
	// With one deep more it would be too much, with this one it is cut.
	wantMany(t, more, "doc:1 both", 2, 7, 0)
	less := laid(t, more, nil, facts("doc:1#up@team:3", "doc:1#up@team:4"))
	wantMany(t, less, "doc:1 view", 2, api.MaxBranches-1, 1)
	// Of any length.
	all := snapWith(t, m, wide("doc:1#up@team:%d", 0, api.MaxTuples))
	wantMany(t, all, "doc:1 view", 1, 1, 0)
	wantRefused(t, all, grant("doc:1 view"), nil, 2, api.ErrLong)
}

// P18.1: as many branches as may be told, and one more, whatever kind the last one is of.
func TestBranchesByTheirKinds(t *testing.T) {
	for last, size := range map[string]int{"[user]": 1, "c": 2, "c from down": 1, "c or [user]": 4, "(c not [user]) and c": 7} {
		m := model(t, "type user type doc relation up: [doc] relation down: [doc] relation c: [user] relation last: "+last+" relation view: c from up relation r: view and last")
		// The NodeAnd, two NodeSames, a NodeFrom with its kids; and what the last one is made of.
		src := snapWith(t, m, wide("doc:1#up@doc:%d", 4+size, api.MaxBranches))
		wantMany(t, src, "doc:1 r", 3, api.MaxBranches, 0)
		wantRefused(t, laid(t, src, facts("doc:1#up@doc:1"), nil), grant("doc:1 r"), nil, 3, api.ErrLong)
	}
}

// P18.1: rings of relations grow until they are too much.
func TestBranchesOfARing(t *testing.T) {
	src := snapOf(t, "type t relation a: a or a relation b: b and b and b relation c: c")
	for deep := 1; deep <= api.MaxDeep; deep++ {
		// Three branches, two of which are gone on with.
		if n := 3 * (1<<deep - 1); n <= api.MaxBranches {
			wantMany(t, src, "t:1 a", deep, n, 0)
		} else {
			wantRefused(t, src, grant("t:1 a"), nil, deep, api.ErrLong)
		}
		wantMany(t, src, "t:1 c", deep, deep, 0)
	}
	// Four branches, three of which are gone on with.
	wantMany(t, src, "t:1 b", 6, 2*(3*3*3*3*3*3-1), 0)
	wantRefused(t, src, grant("t:1 b"), nil, 7, api.ErrLong)
}

// P18.1: as many subjects as may be told in all, and one more, in one branch and in several.
func TestSubjectsInAll(t *testing.T) {
	const half = api.MaxTuples / 2
	m := model(t, "type user type team relation member: [user] relation twice: member or (member not member) relation two: member or one relation one: [user] relation third: (two and two) not one")
	all := snapWith(t, m, wide("team:1#member@user:%d", 0, api.MaxTuples))
	l := wantMany(t, all, "team:1 member", 1, 1, api.MaxTuples)
	if got, e := unfold.Subjects(l); e != api.OK || !slices.Equal(got, l[0].Subjects) {
		t.Errorf("%d subjects, %d", len(got), e)
	}
	wantRefused(t, laid(t, all, facts("team:1#member@user:more"), nil), grant("team:1 member"), nil, 1, api.ErrLong)
	wantRefused(t, all, grant("team:1 twice"), nil, 2, api.ErrLong)
	wantMany(t, all, "team:1 twice", 1, 5, 0)
	wantMany(t, all, "team:1 two", 2, 5, api.MaxTuples)
	wantRefused(t, laid(t, all, facts("team:1#one@user:more"), nil), grant("team:1 two"), nil, 2, api.ErrLong)
	// Each branch for itself, though it be the same ones.
	part := snapWith(t, m, append(wide("team:1#member@user:%d", 0, half), wide("team:1#one@user:%d", half, 2*half)...))
	wantMany(t, part, "team:1 two", 2, 5, api.MaxTuples)
	wantRefused(t, part, grant("team:1 third"), nil, 3, api.ErrLong)
	wantMany(t, part, "team:1 third", 2, 12, half)
	few := snapWith(t, m, append(wide("team:1#member@user:%d", 0, 20000), wide("team:1#one@user:%d", 20000, 20000+8512)...))
	got := wantMany(t, few, "team:1 third", 3, 16, 2*20000+3*8512)
	if subjects, e := unfold.Subjects(got); e != api.OK || len(subjects) != 20000 {
		t.Errorf("%d subjects, %d", len(subjects), e)
	}
	wantRefused(t, laid(t, few, facts("team:1#one@user:more"), nil), grant("team:1 third"), nil, 3, api.ErrLong)
}

// P18.1: each of the tuples, as many as there may be, counts or doesn't under a condition, and is met again and again: the answer comes all the same.
func TestManyThatComeToNothing(t *testing.T) {
	m := model(t, `type user
type team
  relation member: [user]
type doc
  relation up: [team, doc, user with late]
  relation r: (r from up) or (r from up)
  relation s: (s from up) and ([user with late] or s)
cond late(at: int, l: texts): "never" in l or at > 9 and at * 2 < 12 and not ("x" in l) and at - 7 > at + 8`)
	l := wide("doc:1#up@user:%d with late{at: 11}", 0, api.MaxTuples/2)
	l = append(l, wide("doc:1#s@user:%d with late", 0, api.MaxTuples/4)...)
	src := snapWith(t, m, append(l, wide("doc:1#up@team:%d", 0, api.MaxTuples/4-1)...))
	ring := laid(t, src, facts("doc:1#up@doc:1"), nil)
	ctx := with(`at: 10, l: ["a", "b"]`)
	for _, deep := range []int{1, 2, 10, 11, 16} {
		if n := 3 * (1<<deep - 1); n <= api.MaxBranches {
			if l := unfolding(t, ring, grant("doc:1 r"), ctx, deep); len(l) != n {
				t.Errorf("%d: %d branches, want %d", deep, len(l), n)
			}
		} else {
			wantRefused(t, ring, grant("doc:1 r"), ctx, deep, api.ErrLong)
		}
	}
	wantOf(t, src, "doc:1 r", ctx, 16, "or doc:1 r 2", "from doc:1 up", "from doc:1 up")
	if l := unfolding(t, ring, grant("doc:1 s"), ctx, 8); len(l) != 5*(1<<8-1) {
		t.Errorf("%d branches", len(l))
	}
}

// P18.2: a list of as many branches as may be, and one more, whatever it is else.
func TestLongLists(t *testing.T) {
	for _, kids := range []int{api.MaxBranches - 1, api.MaxBranches} {
		flat := [][]api.Branch{}
		for i := range kids {
			flat = append(flat, this(fmt.Sprintf("user:%d", i%900)))
		}
		l := or(flat...)
		cutOne := slices.Clone(l)
		cutOne[len(l)-1] = cut(api.NodeFrom)[0]
		broken := slices.Clone(l)
		broken[len(l)-1].Kids = 1
		if kids == api.MaxBranches {
			for _, l := range [][]api.Branch{l, cutOne, broken, make([]api.Branch, 1<<16)} {
				wantNone(t, l, api.ErrLong)
			}
			continue
		}
		if got, e := unfold.Subjects(l); e != api.OK || len(got) != 900 {
			t.Errorf("%d subjects, %d", len(got), e)
		}
		wantNone(t, cutOne, api.ErrBudget)
		wantNone(t, broken, api.ErrTree)
	}
}

// P18.2: as many branches in one another as there may be, with many subjects, at one end or all along.
func TestDeepLists(t *testing.T) {
	const most = api.MaxBranches/2 - 1
	var many []string
	for i := range 100000 {
		many = append(many, fmt.Sprintf("user:%06d", i))
	}
	great, few := this(many...), this("user:000001", "user:z")
	for _, kind := range []int{api.NodeOr, api.NodeAnd, api.NodeNot} {
		left := slices.Repeat([]api.Branch{{Kind: kind, Kids: 2}}, most)
		right := slices.Repeat(append(slices.Clone(left[:1]), few...), most)
		want := map[int]int{api.NodeOr: 100001, api.NodeAnd: 1, api.NodeNot: 99999}[kind]
		if got, e := unfold.Subjects(slices.Concat(left, great, slices.Repeat(few, most))); e != api.OK || len(got) != want {
			t.Errorf("%d: %d subjects, %d", kind, len(got), e)
		}
		if kind == api.NodeNot {
			// All but all but all but those.
			want = 1
		}
		if got, e := unfold.Subjects(append(right, great...)); e != api.OK || len(got) != want {
			t.Errorf("%d: %d subjects, %d", kind, len(got), e)
		}
		if _, e := unfold.Subjects(right); e != api.ErrTree {
			t.Errorf("%d: %d", kind, e)
		}
	}
	chain := slices.Repeat([]api.Branch{{Kind: api.NodeFrom, Kids: 1}}, api.MaxBranches-1)
	if got, e := unfold.Subjects(append(chain, great...)); e != api.OK || len(got) != 100000 {
		t.Errorf("%d subjects, %d", len(got), e)
	}
	wantNone(t, append(chain, cut(api.NodeSame)...), api.ErrBudget)
	wantNone(t, chain, api.ErrTree)
}

// P18.1: names and ids as long as they may be.
func TestLongNames(t *testing.T) {
	name, id := strings.Repeat("a", 32), strings.Repeat("~", 64)
	src := snapOf(t, fmt.Sprintf("type %s relation %s: [%s] relation r: %s from %s", name, name, name, name, name), fmt.Sprintf("%s:%s#%s@%s:%s", name, id, name, name, id))
	o := name + ":" + id
	wantOf(t, src, o+" r", nil, 2, "from "+o+" "+name+" 1", "this "+o+" "+name+" "+o)
}
