package check_test

import (
	"slices"
	"testing"

	"latchkey/api"
	"latchkey/overlay"
	"latchkey/store"
	"latchkey/tuples"
)

// another is an overlay that has just these tuples, over a source of others: of some of them, some of other conditions, and some more.
func another(t *testing.T, c *maker, src *store.Snap) store.Source {
	t.Helper()
	var under, more, less []api.Tuple
	isOneOf := func(l []api.Tuple, x api.Tuple) bool {
		return slices.ContainsFunc(l, func(y api.Tuple) bool { return tuples.Compare(x, y) == 0 })
	}
	all := slices.Collect(src.All())
	for _, x := range c.facts(src.Model(), 12) {
		if !isOneOf(all, x) {
			less = append(less, x)
			under = append(under, x)
		} else {
			under = append(under, x)
			more = append(more, all[slices.IndexFunc(all, func(y api.Tuple) bool { return tuples.Compare(x, y) == 0 })])
		}
	}
	for _, x := range all {
		switch {
		case isOneOf(under, x):
		case c.isOneOf(2):
			more = append(more, x)
		default:
			under = append(under, x)
		}
	}
	half := len(more) / 2
	low := laid(t, snapWith(t, src.Model(), under), more[:half], less)
	if o := laid(t, low, more[half:], nil); o.Len() == src.Len() {
		return o
	}
	t.Fatal("the overlay has other tuples")
	return nil
}

// P17.2, P17.4: Ask and Askers answer what holds does, for all objects and relations, over random models, tuples, subjects and arguments; of a snapshot and of an overlay of the same tuples with the same steps.
func TestAgainstHolds(t *testing.T) {
	came := map[string]int{}
	for n := range int64(160) {
		c := &maker{Rand: seeded(n), nots: n%3 > 0}
		m := c.model()
		src := snapWith(t, m, c.facts(m, 4+c.Intn(40)))
		over := another(t, c, src)
		if _, isOverlay := over.(*overlay.Overlay); !isOverlay {
			t.Fatal("no overlay")
		}
		goals, all := grantsOf(src), subjects(m)
		for range 6 {
			s, ctx := all[c.Intn(len(all))], c.args(true)
			want := held(t, src, s, ctx)
			for g := range want {
				if !slices.Contains(goals, g) {
					goals = append(goals, g)
				}
			}
			x, a := goalsOf(src, s, ctx, want), asker(t, over, s, ctx)
			for _, i := range c.Perm(len(goals)) {
				q := query(src, goals[i], s, ctx)
				v := ask(t, src, q)
				if v.Held != (want[goals[i]] > 0) {
					t.Fatalf("%s\n%s: %v", told(src, q), grantText(goals[i]), v.Held)
				}
				if w := ask(t, over, q); w != v {
					t.Fatalf("%s\nof an overlay %+v, else %+v", told(src, q), w, v)
				}
				wantBudget(t, src, q, v, v.Steps-1, v.Steps, 1+c.Intn(v.Steps))
				if c.isOneOf(2) {
					x.wantAnswer(t, a, goals[i], 1+c.Intn(v.Steps))
				}
				if !x.wantAnswer(t, a, goals[i], q.Budget) {
					t.Fatalf("%s\nthe bound isn't enough", told(src, q))
				}
				count(came, src, q, v)
			}
		}
	}
	for _, name := range []string{"held", "not held", "held at stratum 1", "held at stratum 2", "missing at stratum 2", "a set held", "one held", "more than 50 steps"} {
		if came[name] < 60 {
			t.Errorf("%s came up %d times", name, came[name])
		}
	}
}

func goalsOf(src store.Source, s api.Subject, ctx []api.Arg, want map[api.Grant]int) goals {
	return goals{src: src, s: s, ctx: ctx, want: want}
}

// count notes what a question was about.
func count(came map[string]int, src store.Source, q api.Query, v api.Verdict) {
	level := src.Model().Stratum(src.Model().Number(q.Object.Type, q.Rel))
	names := map[string]bool{
		"held":                 v.Held,
		"not held":             !v.Held,
		"held at stratum 1":    v.Held && level == 1,
		"held at stratum 2":    v.Held && level == 2,
		"missing at stratum 2": !v.Held && level == 2,
		"a set held":           v.Held && q.Subject.Rel != "",
		"one held":             v.Held && q.Subject.Rel == "",
		"more than 50 steps":   v.Steps > 50,
	}
	for name, isSo := range names {
		if isSo {
			came[name]++
		}
	}
}

// P17.2: models of many strata, in which much is taken away and rings abound.
func TestAgainstHoldsMuchTakenAway(t *testing.T) {
	text := `type user
type team relation member: [user, user:*, team#member, team#core] or core relation core: [user, team#core]
type doc relation up: [doc, team] relation ban: [user, team#member, doc#ban] or ban from up or core from up
relation view: ([user, user:*, team#member, doc#view] or view from up or member from up) not ban
relation edit: ([user, team#core, doc#edit] or edit from up) and view
relation rest: (view or (rest from up)) not (edit or (edit from up))
relation last: (rest from up) not (rest not (view not (edit and ban))) relation open: [user:*, doc#last] not (last or (last from up))`
	m := model(t, text)
	yes, no := 0, 0
	for n := range int64(150) {
		c := &maker{Rand: seeded(1<<20 + n)}
		src := snapWith(t, m, c.facts(m, 30+c.Intn(50)))
		all := subjects(m)
		for range 8 {
			s := all[c.Intn(len(all))]
			want := held(t, src, s, nil)
			x, a := goalsOf(src, s, nil, want), asker(t, src, s, nil)
			goals := grantsOf(src)
			for _, i := range c.Perm(len(goals)) {
				q := query(src, goals[i], s, nil)
				v := ask(t, src, q)
				if v.Held != (want[goals[i]] > 0) {
					t.Fatalf("%s\n%s: %v", told(src, q), grantText(goals[i]), v.Held)
				}
				wantBudget(t, src, q, v, v.Steps-1, v.Steps)
				x.wantAnswer(t, a, goals[i], 1+c.Intn(v.Steps))
				if !x.wantAnswer(t, a, goals[i], q.Budget) {
					t.Fatalf("%s\nthe bound isn't enough", told(src, q))
				}
				if v.Held {
					yes++
				} else {
					no++
				}
			}
		}
	}
	if yes < 2000 || no < 2000 {
		t.Error(yes, no)
	}
}
