package check_test

import (
	"slices"
	"strconv"
	"testing"

	"latchkey/api"
	"latchkey/check"
	"latchkey/store"
)

// goals are an Asker's questions, with what they must answer.
type goals struct {
	src  store.Source
	s    api.Subject
	ctx  []api.Arg
	want map[api.Grant]int
}

// wantAnswer asks an Asker with a budget, and says whether that was enough.
func (x goals) wantAnswer(t *testing.T, a *check.Asker, g api.Grant, budget int) bool {
	t.Helper()
	v, e := a.Ask(g.Object, g.Rel, budget)
	switch {
	case e == api.ErrBudget && v == api.Verdict{Steps: budget, Err: e} && budget < most(x.src):
		return false
	case e != api.OK || v.Err != e || v.Held != (x.want[g] > 0) || v.Steps < 1 || v.Steps > budget:
		t.Fatalf("%s\nwith the budget %d: %+v, %d", told(x.src, query(x.src, g, x.s, x.ctx)), budget, v, e)
	}
	return true
}

// P17.4: asked whatever in whatever order, an Asker answers as Ask does; never ErrBudget with a budget of at least the bound.
func TestAskerInTurns(t *testing.T) {
	for name, src := range worlds(t) {
		for n, s := range whoIs(src) {
			x := goals{src: src, s: s, ctx: with("n: 5"), want: held(t, src, s, with("n: 5"))}
			a, all := asker(t, src, s, x.ctx), grantsOf(src)
			for round := range int64(4) {
				for _, i := range seeded(round + int64(n)*10).Perm(len(all)) {
					if !x.wantAnswer(t, a, all[i], most(src)) {
						t.Errorf("%s: the bound isn't enough", name)
					}
				}
			}
		}
	}
}

// P17.4: a question for which the budget wasn't enough can be asked again, with more, with less and with the same, whatever was asked between.
func TestAskerOutOfBudget(t *testing.T) {
	for _, src := range worlds(t) {
		for n, s := range whoIs(src) {
			x := goals{src: src, s: s, ctx: with("n: 5"), want: held(t, src, s, with("n: 5"))}
			a, all, r := asker(t, src, s, x.ctx), grantsOf(src), seeded(int64(n))
			few := 0
			for range 6 * len(all) {
				g := all[r.Intn(len(all))]
				budget := 1 + r.Intn(1+r.Intn(40))
				if !x.wantAnswer(t, a, g, budget) {
					few++
				}
				if r.Intn(5) == 0 && !x.wantAnswer(t, a, g, most(src)) {
					t.Error("the bound isn't enough")
				}
			}
			for _, g := range all {
				if !x.wantAnswer(t, a, g, most(src)) {
					t.Error("the bound isn't enough")
				}
			}
		}
	}
}

// P17.4: every budget below what a question takes, and then enough, of an Asker that nobody asked and of one that was asked all else.
func TestAskerEveryBudget(t *testing.T) {
	for _, src := range worlds(t) {
		for _, s := range whoIs(src) {
			x := goals{src: src, s: s, ctx: with("n: 5"), want: held(t, src, s, with("n: 5"))}
			all := grantsOf(src)
			used := asker(t, src, s, x.ctx)
			for _, g := range all {
				v := ask(t, src, query(src, g, s, x.ctx))
				fresh := asker(t, src, s, x.ctx)
				for budget := 1; budget < v.Steps; budget++ {
					x.wantAnswer(t, fresh, g, budget)
					x.wantAnswer(t, used, g, budget)
				}
				x.wantAnswer(t, fresh, g, most(src))
				x.wantAnswer(t, used, g, most(src))
			}
		}
	}
}

// P17.4: however many questions ran out of their budgets ahead of it, the bound is enough: what they left isn't done behind them.
func TestAskerBehindManyOthers(t *testing.T) {
	src := snapOf(t, "type user type doc relation a: b or c or d or e or f relation b: b relation c: c relation d: d relation e: e relation f: f relation top: a")
	a := asker(t, src, subject("user:ann"), nil)
	enough := most(src)
	for i := range enough / 3 {
		o := api.Object{Type: "doc", Id: strconv.Itoa(i)}
		if v, e := a.Ask(o, "a", 7); v != (api.Verdict{Steps: 7, Err: api.ErrBudget}) || e != api.ErrBudget {
			t.Fatalf("%+v, %d", v, e)
		}
	}
	for _, g := range []string{"doc:1 top", "doc:1 a", "doc:2 b", "doc:x top"} {
		v, e := a.Ask(grant(g).Object, grant(g).Rel, enough)
		if e != api.OK || v.Held || v.Steps > 30 {
			t.Errorf("%s: %+v, %d", g, v, e)
		}
	}
}

// DOC.md, Refusals: behind ErrBudget, as behind any error, an Asker goes on as if nobody had called: with the same steps, too.
func TestAskerBehindErrBudget(t *testing.T) {
	out := 0
	for _, src := range worlds(t) {
		all := grantsOf(src)
		for n, s := range whoIs(src) {
			r := seeded(int64(n))
			plain, pressed := asker(t, src, s, with("n: 5")), asker(t, src, s, with("n: 5"))
			for _, i := range append(r.Perm(len(all)), r.Perm(len(all))...) {
				want, _ := plain.Ask(all[i].Object, all[i].Rel, most(src))
				for k := 1; k < want.Steps; k += 1 + r.Intn(4) {
					if v, e := pressed.Ask(all[i].Object, all[i].Rel, k); v != (api.Verdict{Steps: k, Err: api.ErrBudget}) || e != api.ErrBudget {
						t.Errorf("%+v, %d with %d of %d steps", v, e, k, want.Steps)
					}
					out++
				}
				if v, e := pressed.Ask(all[i].Object, all[i].Rel, want.Steps); v != want || e != api.OK {
					t.Errorf("%s\n%+v, %d, want %+v", told(src, query(src, all[i], s, nil)), v, e, want)
				}
			}
		}
	}
	if out < 1000 {
		t.Error(out)
	}
}

// P17.4: two Askers know nothing of one another: not those of one source, nor those of two.
func TestAskersApart(t *testing.T) {
	src := example(t)
	up := laid(t, src, facts("doc:9#owner@user:ann"), facts("doc:2#blocked@user:ann", "team:a#member@user:ann"))
	ann, bob, set := asker(t, src, subject("user:ann"), nil), asker(t, src, subject("user:bob"), nil), asker(t, src, subject("team:a#member"), nil)
	over := asker(t, up, subject("user:ann"), nil)
	for range 2 {
		for _, g := range grantsOf(up) {
			for _, x := range []struct {
				a   *check.Asker
				src store.Source
				s   string
			}{{ann, src, "user:ann"}, {bob, src, "user:bob"}, {set, src, "team:a#member"}, {over, up, "user:ann"}} {
				v, e := x.a.Ask(g.Object, g.Rel, most(x.src))
				if want := held(t, x.src, subject(x.s), nil)[g] > 0; v.Held != want || e != api.OK {
					t.Errorf("%s has %s: %+v, %d", x.s, grantText(g), v, e)
				}
			}
		}
	}
}

// P17.4: an Asker answers of its source as that was, whatever is written behind it.
func TestAskerOfARevision(t *testing.T) {
	s, _ := store.New(model(t, exampleText), api.Limits{Tuples: 100, Keep: 1}, 0)
	write := func(kind int, texts ...string) {
		t.Helper()
		var l []api.Change
		for _, x := range facts(texts...) {
			l = append(l, api.Change{Kind: kind, Tuple: x})
		}
		if _, e := s.Write(l, nil); e != api.OK {
			t.Fatal(e)
		}
	}
	write(api.ChangeInsert, exampleFacts()...)
	snap, _ := s.Snap(1)
	a := asker(t, snap, subject("user:ann"), nil)
	write(api.ChangeDelete, exampleFacts()...)
	if _, e := s.Change(model(t, "type user type file")); e != api.OK {
		t.Fatal(e)
	}
	want := held(t, example(t), subject("user:ann"), nil)
	for _, g := range grantsOf(snap) {
		v, e := a.Ask(g.Object, g.Rel, most(snap))
		if v.Held != (want[g] > 0) || e != api.OK {
			t.Errorf("%s: %+v, %d", grantText(g), v, e)
		}
	}
}

// P17.4: whatever an Asker was asked, the same questions behind one another have the same answers, with the same steps.
func TestAskerSameAgain(t *testing.T) {
	for _, src := range worlds(t) {
		all := grantsOf(src)
		for _, s := range whoIs(src) {
			run := func() []api.Verdict {
				a, r := asker(t, src, s, nil), seeded(7)
				var l []api.Verdict
				for range 40 {
					g := all[r.Intn(len(all))]
					v, _ := a.Ask(g.Object, g.Rel, 1+r.Intn(60))
					l = append(l, v)
				}
				return l
			}
			if one, two := run(), run(); !slices.Equal(one, two) {
				t.Errorf("%v\nbut\n%v", one, two)
			}
		}
	}
}
