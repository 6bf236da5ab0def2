package unfold_test

import (
	"slices"
	"testing"

	"latchkey/api"
	"latchkey/check"
	"latchkey/holds"
	"latchkey/store"
	"latchkey/unfold"
)

// held are the grants that s has, as holds tells them.
func held(t *testing.T, src store.Source, s api.Subject, ctx []api.Arg) map[api.Grant]int {
	t.Helper()
	l, e := holds.Of(src, s, ctx)
	if e != api.OK {
		t.Fatalf("holds.Of(.., %q): %d", s, e)
	}
	all := map[api.Grant]int{}
	for _, g := range l {
		all[g] = 1
	}
	return all
}

// ones are ones of each type, also such as no tuple names.
func ones(src store.Source) []api.Subject {
	return slices.DeleteFunc(subjects(src.Model()), func(s api.Subject) bool { return s.Rel != "" })
}

// letsIn says whether a tree lets one in that has these grants.
func letsIn(l []api.Branch, s api.Subject, has map[api.Grant]int) bool {
	yes, _ := says(l, func(b api.Branch) bool {
		return slices.ContainsFunc(b.Subjects, func(x api.Subject) bool {
			return x == s || x.Id == "*" && x.Type == s.Type || x.Rel != "" && has[api.Grant{Object: api.Object{Type: x.Type, Id: x.Id}, Rel: x.Rel}] > 0
		})
	})
	return yes
}

// wholeOf is the unfolding of g, and how deep it is, as soon as that is whole; none, if it never is, or grows past some branches.
func wholeOf(src store.Source, g api.Grant, ctx []api.Arg) ([]api.Branch, int) {
	for deep := 1; deep <= api.MaxDeep; deep++ {
		l, e := unfold.Of(src, g.Object, g.Rel, ctx, deep)
		if e != api.OK || len(l) > 500 {
			break
		}
		if unfold.Whole(l) {
			return l, deep
		}
	}
	return nil, 0
}

// P18.4: what Of answers is a tree of branches.
func TestIsATree(t *testing.T) {
	for n := range int64(40) {
		c := &maker{Rand: seeded(1<<20 + n), nots: n%3 > 0}
		m := c.model()
		src := snapWith(t, m, c.facts(m, 30))
		ctx := c.args(true)
		for _, g := range grantsOf(src) {
			for deep := 1; deep < 5; deep++ {
				l, e := unfold.Of(src, g.Object, g.Rel, ctx, deep)
				if e == api.ErrLong {
					break
				}
				if isTree, rest := isPlain(l); !isTree || len(rest) > 0 {
					t.Fatalf("%s\nOf(%s, %d): %q", told(src), grantText(g), deep, linesOf(l))
				}
			}
		}
	}
}

// P18.4: what is whole is the same at every greater deep, and tells who has the relation, also under conditions, and by sets and all of a type.
func TestWholeTellsWhoHasIt(t *testing.T) {
	yes, no := 0, 0
	for n := range int64(60) {
		c := &maker{Rand: seeded(1<<30 + n), nots: n%3 > 0}
		m := c.model()
		src := snapWith(t, m, c.facts(m, 20+c.Intn(60)))
		ctx := c.args(true)
		has := map[api.Subject]map[api.Grant]int{}
		for _, s := range ones(src) {
			has[s] = held(t, src, s, ctx)
		}
		for _, g := range grantsOf(src) {
			l, deep := wholeOf(src, g, ctx)
			if deep == 0 {
				continue
			}
			for more := deep + 1; more <= api.MaxDeep; more++ {
				if again := unfolding(t, src, g, ctx, more); !slices.EqualFunc(l, again, isSame) {
					t.Fatalf("%s\n%s: %q, but %d deep %q", told(src), grantText(g), linesOf(l), more, linesOf(again))
				}
			}
			for s, grants := range has {
				lets := letsIn(l, s, grants)
				if lets != (grants[g] > 0) {
					t.Fatalf("%s\n%q has %s: %v, but %q", told(src), s, grantText(g), !lets, linesOf(l))
				}
				if lets {
					yes++
				} else {
					no++
				}
			}
		}
	}
	if yes < 1000 || no < 1000 {
		t.Error(yes, no)
	}
}

// P18.4: where tuples name ones alone, Subjects are just those who have the relation.
func TestWhereOnlyOnesAreNamed(t *testing.T) {
	yes, no := 0, 0
	for n := range int64(80) {
		c := &maker{Rand: seeded(1<<40 + n), nots: n%3 > 0}
		m := c.model()
		l := slices.DeleteFunc(c.facts(m, 60), func(x api.Tuple) bool { return x.Subject.Rel != "" || x.Subject.Id == "*" })
		src, ctx := snapWith(t, m, l), c.args(true)
		askers := map[api.Subject]*check.Asker{}
		for _, s := range ones(src) {
			askers[s], _ = check.New(src, s, ctx)
		}
		for _, g := range grantsOf(src) {
			l, deep := wholeOf(src, g, ctx)
			if deep == 0 {
				continue
			}
			named := subjectsIn(t, l)
			for s, a := range askers {
				v, e := a.Ask(g.Object, g.Rel, api.MaxBudget)
				if e != api.OK || v.Held != slices.Contains(named, s) {
					t.Fatalf("%s\n%q has %s: %+v, %d, but %q are named", told(src), s, grantText(g), v, e, textsOf(named))
				}
				if v.Held {
					yes++
				} else {
					no++
				}
			}
		}
	}
	if yes < 500 || no < 500 {
		t.Error(yes, no)
	}
}
