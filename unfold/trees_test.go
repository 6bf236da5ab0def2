package unfold_test

import (
	"math"
	"math/rand"
	"slices"
	"strings"
	"testing"

	"latchkey/api"
	"latchkey/ident"
	"latchkey/unfold"
)

// P18.2: whom each kind of branch names.
func TestWhoIsNamed(t *testing.T) {
	ab, bc, none := this("user:a", "user:b"), this("user:b", "user:c"), this()
	for _, x := range []struct {
		tree []api.Branch
		want string
	}{
		{none, ""},
		{ab, "user:a user:b"},
		{same(ab), "user:a user:b"},
		{same(none), ""},
		{same(same(same(bc))), "user:b user:c"},
		{from(), ""},
		{from(ab), "user:a user:b"},
		{from(ab, bc), "user:a user:b user:c"},
		{from(bc, none, ab, bc), "user:a user:b user:c"},
		{or(ab, bc), "user:a user:b user:c"},
		{or(bc, ab), "user:a user:b user:c"},
		{or(none, none), ""},
		{or(none, ab, none), "user:a user:b"},
		{and(ab, bc), "user:b"},
		{and(ab, ab, ab), "user:a user:b"},
		{and(ab, ab, bc), "user:b"},
		{and(ab, bc, none), ""},
		{and(none, ab), ""},
		{and(ab, from()), ""},
		{not(ab, bc), "user:a"},
		{not(bc, ab), "user:c"},
		{not(ab, none), "user:a user:b"},
		{not(none, ab), ""},
		{not(ab, ab), ""},
		{not(ab, not(bc, ab)), "user:a user:b"},
		{not(or(ab, bc), and(ab, bc)), "user:a user:c"},
		{or(not(ab, bc), same(and(ab, bc)), from()), "user:a user:b"},
		{and(from(ab, bc), not(this("user:a", "user:c"), this("user:a"))), "user:c"},
		// Nobody is looked for in sets, nor in all of a type.
		{not(this("team:a#member", "user:*", "user:a"), this("team:a", "user:*")), "team:a#member user:a"},
		{and(this("user:*"), this("user:a")), ""},
		{or(this("user:b"), this("doc:1#viewer", "user:*"), this("doc:1", "team:a#member", "user:Z")), "doc:1 doc:1#viewer team:a#member user:* user:Z user:b"},
	} {
		wantSubjects(t, x.tree, strings.Fields(x.want)...)
		for i := range x.tree {
			// Places say nothing, whatever stands there.
			x.tree[i].Place = api.Grant{Object: api.Object{Type: "or", Id: "*"}, Rel: strings.Repeat(":", i)}
		}
		wantSubjects(t, x.tree, strings.Fields(x.want)...)
	}
}

// P18.2: what is cut, wherever in the tree, and however little it would change.
func TestCutAnywhere(t *testing.T) {
	a := this("user:a")
	for _, kind := range []int{api.NodeSame, api.NodeFrom} {
		for _, l := range [][]api.Branch{cut(kind), same(cut(kind)), from(a, cut(kind)), or(a, cut(kind)), and(this(), cut(kind)), not(cut(kind), a), not(a, cut(kind)), not(this(), cut(kind)), or(a, a, and(a, not(a, cut(kind))))} {
			wantNone(t, l, api.ErrBudget)
		}
	}
}

// P18.2: each way in which a list is no tree of branches.
func TestNoTrees(t *testing.T) {
	a := this("user:a")
	wrong := func(b api.Branch, kids ...[]api.Branch) {
		t.Helper()
		l := slices.Concat(append([][]api.Branch{{b}}, kids...)...)
		// Alone, and in the midst of others.
		for _, l := range [][]api.Branch{l, same(l), or(a, l), not(l, a), append(slices.Clip(l), cut(api.NodeSame)...)} {
			wantNone(t, l, api.ErrTree)
		}
	}
	for _, kids := range []int{1, 2, -1, math.MinInt, math.MaxInt} {
		wrong(api.Branch{Kind: api.NodeThis, Kids: kids}, a)
	}
	wrong(api.Branch{Kind: api.NodeSame})
	for _, kids := range []int{2, 3, -1, math.MinInt, math.MaxInt} {
		wrong(api.Branch{Kind: api.NodeSame, Kids: kids}, a, a)
	}
	for _, kids := range []int{-1, math.MinInt, math.MaxInt, 1 << 32, 1 << 62, 9} {
		wrong(api.Branch{Kind: api.NodeFrom, Kids: kids}, a, a)
	}
	for _, kind := range []int{api.NodeOr, api.NodeAnd} {
		wrong(api.Branch{Kind: kind})
		wrong(api.Branch{Kind: kind, Kids: 1}, a)
		for _, kids := range []int{-1, -2, 9, math.MaxInt, math.MinInt} {
			wrong(api.Branch{Kind: kind, Kids: kids}, a, a)
		}
	}
	wrong(api.Branch{Kind: api.NodeNot})
	wrong(api.Branch{Kind: api.NodeNot, Kids: 1}, a)
	for _, kids := range []int{3, -2, math.MaxInt} {
		wrong(api.Branch{Kind: api.NodeNot, Kids: kids}, a, a, a)
	}
	for _, kind := range []int{0, 7, 8, -1, math.MaxInt, math.MinInt, 1<<32 + api.NodeThis} {
		wrong(api.Branch{Kind: kind})
		wrong(api.Branch{Kind: kind, Kids: 1}, a)
		wrong(api.Branch{Kind: kind, Kids: 2}, a, a)
	}
}

// P18.2: kids that, added up, come to as many as there are, but are too many or too few by themselves.
func TestKidsThatAddUp(t *testing.T) {
	or, from := api.NodeOr, api.NodeFrom
	for _, l := range [][]api.Branch{
		{{Kind: or, Kids: 2}, {Kind: from, Kids: -1}},
		{{Kind: or, Kids: 3}, {Kind: from, Kids: -1}, {Kind: from}},
		{{Kind: from, Kids: 9}, {Kind: from, Kids: -8}},
		{{Kind: from, Kids: 1 << 62}, {Kind: from, Kids: 1 << 62}, {Kind: from, Kids: 1 << 62}, {Kind: from, Kids: 1 << 62}, {Kind: or, Kids: 4}},
		{{Kind: from, Kids: math.MaxInt}, {Kind: from, Kids: math.MaxInt}, {Kind: from, Kids: 4}},
		{{Kind: from, Kids: math.MaxInt}, {Kind: from, Kids: math.MinInt}, {Kind: from}, {Kind: from, Kids: 3}},
		{{Kind: api.NodeThis, Kids: math.MaxInt}, {Kind: api.NodeThis, Kids: math.MinInt + 2}},
	} {
		wantNone(t, l, api.ErrTree)
	}
}

// P18.2: cut is nothing but a NodeSame or a NodeFrom, and then it has no kids.
func TestCutWhereItMayNotStand(t *testing.T) {
	a := this("user:a")
	for _, l := range [][]api.Branch{a, this(), same(a), from(a), from(a, a), or(a, a), and(a, a), not(a, a)} {
		l[0].Cut = true
		wantNone(t, l, api.ErrTree)
		wantNone(t, or(l, a), api.ErrTree)
	}
	// Cut once more changes nothing.
	wantNone(t, or(cut(api.NodeSame), cut(api.NodeFrom)), api.ErrBudget)
}

// P18.2: subjects stand in a NodeThis alone; they rise, each once, and are subjects.
func TestSubjectsThatMayNotStand(t *testing.T) {
	a := this("user:a")
	for _, l := range [][]api.Branch{same(a), from(), from(a), or(a, a), and(a, a), not(a, a), cut(api.NodeSame), cut(api.NodeFrom)} {
		l[0].Subjects = subjectsOf("user:a")
		wantNone(t, l, api.ErrTree)
		l[0].Subjects = []api.Subject{}
		if _, e := unfold.Subjects(l); e == api.ErrTree {
			t.Errorf("%q: no subjects are some", linesOf(l))
		}
	}
	for _, texts := range []string{"user:a user:a", "user:b user:a", "user:a user:c user:b", "user:a user:*", "user:a team:a", "team:a#member team:a", "team:a#b team:a#a", "user:a user:b user:a", "user:ab user:a", "user:a user:B", "bot:1 user:a user:b user:b"} {
		wantNone(t, this(strings.Fields(texts)...), api.ErrTree)
		wantNone(t, and(a, this(strings.Fields(texts)...)), api.ErrTree)
	}
	wantSubjects(t, this("team:a", "team:a#a", "team:a#b", "user:*", "user:B", "user:a", "user:ab"), "team:a", "team:a#a", "team:a#b", "user:*", "user:B", "user:a", "user:ab")
	long := strings.Repeat("z", 1<<20)
	for _, s := range []api.Subject{{}, {Type: "zone"}, {Id: "z"}, {Type: "zone", Id: "a b"}, {Type: "Zone", Id: "z"}, {Type: "zone", Id: "*", Rel: "r"}, {Type: "zone", Id: "z", Rel: "R"}, {Type: "zone", Id: "z", Rel: "or"}, {Type: "zone", Id: strings.Repeat("z", 65)}, {Type: long, Id: long, Rel: long}} {
		l := this()
		for _, l[0].Subjects = range [][]api.Subject{{s}, {subject("user:a"), s}, {s, subject("zulu:a")}, {s, s}} {
			wantNone(t, l, api.ErrTree)
			wantNone(t, not(a, l), api.ErrTree)
		}
	}
}

// isPlain says whether the first tree of l is one of branches, by the chapter's words, and what stands behind that tree.
func isPlain(l []api.Branch) (bool, []api.Branch) {
	if len(l) == 0 {
		return false, nil
	}
	b, rest := l[0], l[1:]
	var fits bool
	switch kindOf(b) {
	case "this":
		fits = b.Kids == 0
	case "same":
		fits = b.Kids == 1 && !b.Cut || b.Kids == 0 && b.Cut
	case "from":
		fits = b.Kids == 0 || b.Kids > 0 && !b.Cut
	case "or", "and":
		fits = b.Kids > 1
	case "not":
		fits = b.Kids == 2
	}
	mayCut := kindOf(b) == "same" || kindOf(b) == "from"
	mayName := kindOf(b) == "this"
	rises := slices.IsSortedFunc(b.Subjects, ident.CompareSubjects) && len(slices.Compact(slices.Clone(b.Subjects))) == len(b.Subjects)
	noneIsNone := !slices.ContainsFunc(b.Subjects, func(s api.Subject) bool { return ident.Kind(s) == api.SubNone })
	if !fits || b.Cut && !mayCut || len(b.Subjects) > 0 && !(mayName && rises && noneIsNone) {
		return false, nil
	}
	for range b.Kids {
		if fits, rest = isPlain(rest); !fits {
			return false, nil
		}
	}
	return true, rest
}

func kindOf(b api.Branch) string {
	if b.Kind < 0 || b.Kind >= len(kindNames()) {
		return ""
	}
	return kindNames()[b.Kind]
}

// someTree is a tree of branches.
func someTree(c *rand.Rand, deep int) []api.Branch {
	if deep == 0 || c.Intn(4) == 0 {
		return this(someNames(c)...)
	}
	if c.Intn(60) == 0 {
		return cut([]int{api.NodeSame, api.NodeFrom}[c.Intn(2)])
	}
	kid := func() []api.Branch { return someTree(c, deep-1) }
	switch c.Intn(6) {
	case 0:
		return same(kid())
	case 1:
		var kids [][]api.Branch
		for range c.Intn(4) {
			kids = append(kids, kid())
		}
		return from(kids...)
	case 2:
		return and(kid(), kid())
	case 3:
		return or(kid(), kid(), kid())
	case 4:
		return not(kid(), kid())
	}
	return or(kid(), kid())
}

func someNames(c *rand.Rand) []string {
	var l []string
	for _, s := range []string{"bot:1", "team:a", "team:a#member", "team:b#member", "user:*", "user:a", "user:b", "user:c"} {
		if c.Intn(3) > 0 {
			l = append(l, s)
		}
	}
	return l
}

// spoil changes one thing in a tree.
func spoil(c *rand.Rand, l []api.Branch) []api.Branch {
	b := &l[c.Intn(len(l))]
	switch c.Intn(8) {
	case 0:
		b.Kind = c.Intn(9) - 1
	case 1:
		b.Kids += []int{-1, 1, 2, math.MaxInt, math.MinInt}[c.Intn(5)]
	case 2:
		b.Cut = !b.Cut
	case 3:
		b.Cut, b.Kids = true, 0
	case 4:
		b.Subjects = append(b.Subjects, subject([]string{"bot:1", "user:a", "user:c", "user:z", "zoo:1"}[c.Intn(5)]))
	case 5:
		b.Subjects = []api.Subject{{Type: "user", Id: []string{"*", "a", "a b"}[c.Intn(3)], Rel: []string{"", "r"}[c.Intn(2)]}}
	case 6:
		at := c.Intn(len(l))
		l = slices.Delete(l, at, at+1)
	case 7:
		l = slices.Insert(l, c.Intn(len(l)+1), l[c.Intn(len(l))])
	}
	return l
}

// P18.2: of trees drawn at random, and of what is changed in them, Subjects answers what the chapter's words say.
func TestRandomTrees(t *testing.T) {
	came := map[string]int{}
	for n := range int64(20000) {
		c := seeded(n)
		l := someTree(c, 5)
		for range c.Intn(3) {
			if len(l) > 0 {
				l = spoil(c, l)
			}
		}
		isTree, rest := isPlain(l)
		switch {
		case !isTree || len(rest) > 0:
			came["no tree"]++
			wantNone(t, l, api.ErrTree)
		case slices.ContainsFunc(l, func(b api.Branch) bool { return b.Cut }):
			came["cut"]++
			wantNone(t, l, api.ErrBudget)
		default:
			want := plainSubjects(l)
			wantSubjects(t, l, textsOf(want)...)
			came["a tree"]++
			if len(l) > 10 && len(want) > 0 && len(want) < 8 {
				came["a tree that names some"]++
			}
		}
	}
	for _, name := range []string{"no tree", "cut", "a tree", "a tree that names some"} {
		if came[name] < 800 {
			t.Errorf("%s came up %d times", name, came[name])
		}
	}
}
