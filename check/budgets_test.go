package check_test

import (
	"fmt"
	"slices"
	"testing"

	"latchkey/api"
	"latchkey/check"
	"latchkey/store"
)

// worlds are sources of unlike kinds: rings, long chains, much that is taken away, many tuples, conditions.
func worlds(t *testing.T) map[string]store.Source {
	t.Helper()
	const teams = "type user type team relation member: [user, team#member] "
	var ring, chain, wide, taken []string
	for i := range 12 {
		ring = append(ring, fmt.Sprintf("team:%d#member@team:%d#member", i, (i+1)%12), fmt.Sprintf("team:%d#member@team:%d#member", i, (i+5)%12))
		chain = append(chain, fmt.Sprintf("doc:%d#up@doc:%d", i, i+1))
		wide = append(wide, fmt.Sprintf("doc:1#viewer@team:%d#member", i), fmt.Sprintf("team:%d#member@user:%d", i, i))
		taken = append(taken, fmt.Sprintf("doc:%d#up@doc:%d", i, i+1), fmt.Sprintf("doc:%d#blocked@user:%d", i, i), fmt.Sprintf("doc:%d#viewer@user:*", i))
	}
	return map[string]store.Source{
		"example": example(t),
		"rings":   snapOf(t, teams+"type doc relation viewer: [team#member]", append(ring, "doc:1#viewer@team:3#member", "team:7#member@user:1")...),
		"chain":   snapOf(t, "type user type doc relation up: [doc] relation viewer: [user] or viewer from up", append(chain, "doc:12#viewer@user:1", "doc:4#viewer@user:2")...),
		"wide":    snapOf(t, teams+"type doc relation viewer: [team#member, user]", append(wide, "doc:1#viewer@user:12", "doc:1#viewer@user:a")...),
		"taken":   snapOf(t, "type user type doc relation up: [doc] relation blocked: [user, user:*] relation viewer: ([user:*] or viewer from up) not (blocked or (blocked from up)) relation rest: (viewer from up) not viewer relation both: (viewer not rest) and (viewer not (rest not blocked))", taken...),
		"conds":   snapOf(t, "type user type team relation member: [user with c, team#member with c] type doc relation up: [team with c] relation viewer: member from up cond c(n: int): n > 1", "team:1#member@user:1 with c", "team:2#member@team:1#member with c{n: 2}", "doc:1#up@team:2 with c", "doc:2#up@team:2 with c{n: 1}"),
		"bare":    snapOf(t, "type user type doc relation viewer: [user] or viewer"),
	}
}

// whoIs are some subjects of these worlds.
func whoIs(src store.Source) []api.Subject {
	var l []api.Subject
	for _, s := range []string{"user:1", "user:2", "user:ann", "user:zoe", "team:3#member", "team:a#member", "doc:1", "doc:5#viewer", "doc:1#viewer", "doc:2#rest"} {
		if x := subject(s); x.Rel == "" || src.Model().Number(x.Type, x.Rel) >= 0 {
			l = append(l, x)
		}
	}
	return slices.DeleteFunc(l, func(s api.Subject) bool { _, e := check.New(src, s, nil); return e != api.OK })
}

// P17.2, P17.3: with every budget from its steps on a question has the same answer, and with every lower one ErrBudget; its steps are never more than the bound.
func TestEveryBudget(t *testing.T) {
	for name, src := range worlds(t) {
		asked, longest := 0, 0
		for _, s := range whoIs(src) {
			all := held(t, src, s, with("n: 5"))
			for _, g := range grantsOf(src) {
				q := query(src, g, s, with("n: 5"))
				v := ask(t, src, q)
				if v.Held != (all[g] > 0) {
					t.Errorf("%s: %s has %s: %v", name, subjectText(s), grantText(g), v.Held)
				}
				for budget := range v.Steps + 5 {
					wantBudget(t, src, q, v, budget)
				}
				wantBudget(t, src, q, v, v.Steps*2, most(src)-1, most(src), most(src)+1, api.MaxBudget-1, api.MaxBudget)
				asked++
				longest = max(longest, v.Steps)
			}
		}
		if asked < 7 || longest < 4 {
			t.Errorf("%s: %d questions, of %d steps at most", name, asked, longest)
		}
	}
}

// P17.2: a question's steps are the same, asked again, in whatever order, and of whichever source of the same model and tuples.
func TestSameSteps(t *testing.T) {
	for name, src := range worlds(t) {
		tuples := slices.Collect(src.All())
		slices.Reverse(tuples)
		sources := []store.Source{src, snapWith(t, src.Model(), tuples), snapWith(t, model(t, textOf(src)), tuples)}
		half := len(tuples) / 2
		under := store.Source(snapWith(t, src.Model(), tuples[half:]))
		for part := range slices.Chunk(tuples[:half], 5) {
			under = laid(t, under, part, nil)
		}
		sources = append(sources, under, laid(t, laid(t, src, nil, tuples[:half]), tuples[:half], nil))
		var all []api.Query
		for _, s := range whoIs(src) {
			for _, g := range grantsOf(src) {
				all = append(all, query(src, g, s, with("n: 5")))
			}
		}
		var want []api.Verdict
		for _, q := range all {
			want = append(want, ask(t, src, q))
		}
		for n, other := range sources {
			for _, i := range seeded(int64(n)).Perm(len(all)) {
				if v := ask(t, other, all[i]); v != want[i] {
					t.Errorf("%s\nof the source %d %+v, of the first one %+v", told(src, all[i]), n, v, want[i])
				}
			}
		}
		if len(all) < 7 {
			t.Errorf("%s: %d questions", name, len(all))
		}
	}
}

// P17.2: what is asked with unlike lists of the same arguments is the same question.
func TestSameStepsOfSameArguments(t *testing.T) {
	src := worlds(t)["conds"]
	q := query(src, grant("doc:1 viewer"), subject("user:1"), with("n: 5"))
	v := ask(t, src, q)
	if !v.Held {
		t.Errorf("%+v", v)
	}
	q.Ctx = append(make([]api.Arg, 0, 9), with("n: 5")...)
	if w := ask(t, src, q); w != v {
		t.Errorf("%+v, but %+v", v, w)
	}
	for _, q.Ctx = range [][]api.Arg{nil, {}, with("n: 1"), with("m: 5"), with("n: 5.0")} {
		if w := ask(t, src, q); w.Held {
			t.Errorf("%v: %+v", q.Ctx, w)
		}
	}
}

// P17.3: beside ErrBudget stands the budget, in both calls, and nothing else.
func TestBesideErrBudget(t *testing.T) {
	src := example(t)
	q := query(src, grant("doc:3 viewer"), subject("user:ann"), nil)
	v := ask(t, src, q)
	for q.Budget = 1; q.Budget < v.Steps; q.Budget++ {
		want := api.Verdict{Steps: q.Budget, Err: api.ErrBudget}
		if got, e := check.Ask(src, q); got != want || e != api.ErrBudget {
			t.Errorf("%+v, %d, want %+v", got, e, want)
		}
		if got, e := asker(t, src, q.Subject, nil).Ask(q.Object, q.Rel, q.Budget); got != want || e != api.ErrBudget {
			t.Errorf("%+v, %d, want %+v", got, e, want)
		}
	}
}
