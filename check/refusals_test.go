package check_test

import (
	"math"
	"slices"
	"strings"
	"testing"

	"latchkey/api"
	"latchkey/check"
	"latchkey/overlay"
	"latchkey/store"
)

// noSources are all sources that are none.
func noSources(t *testing.T) []store.Source {
	t.Helper()
	var snap *store.Snap
	var o *overlay.Overlay
	refused, _ := overlay.Over(nil, nil, nil)
	s, _ := store.New(model(t, "type user"), api.Limits{Tuples: 1, Keep: 1}, 0)
	gone, _ := s.Snap(1)
	return []store.Source{nil, snap, o, refused, gone, &store.Snap{}, &overlay.Overlay{}}
}

// badArgs are arguments that may not be.
func badArgs() [][]api.Arg {
	var many []api.Arg
	for _, name := range strings.Split("abcdefghijklmnopq", "") {
		many = append(many, whole(name, 1))
	}
	return [][]api.Arg{
		many,
		make([]api.Arg, 1),
		make([]api.Arg, 17),
		make([]api.Arg, 100000),
		{whole("b", 1), whole("a", 1)},
		{whole("a", 1), whole("a", 1)},
		{whole("or", 1)},
		{whole("", 1)},
		{whole("A", 1)},
		{whole(strings.Repeat("a", 33), 1)},
		{{Name: "at"}},
		{{Name: "at", Value: api.Value{Kind: 6}}},
		{{Name: "at", Value: api.Value{Kind: -1}}},
		{{Name: "at", Value: api.Value{Kind: api.ValInt, Text: "x"}}},
		{{Name: "at", Value: api.Value{Kind: api.ValText, Text: strings.Repeat("a", 257)}}},
		{{Name: "at", Value: api.Value{Kind: api.ValTexts, Texts: make([]string, 33)}}},
		{whole("a", 1), {Name: "b"}},
	}
}

// badSubjects are neither one nor a set of the examples' model.
func badSubjects() []api.Subject {
	long := strings.Repeat("x", 1<<20)
	return []api.Subject{
		// All of a type.
		{Type: "user", Id: "*"}, {Type: "team", Id: "*"}, {Type: "bot", Id: "*"},
		// None at all.
		{}, {Type: "user"}, {Id: "ann"}, {Type: "user", Id: "a b"}, {Type: "user", Id: strings.Repeat("a", 65)}, {Type: "User", Id: "ann"}, {Type: "team", Id: "*", Rel: "member"}, {Type: "team", Id: "a", Rel: "Member"}, {Type: "team", Id: "a", Rel: "or"}, {Type: "team", Rel: "member"}, {Type: "user", Id: "ann", Rel: " "}, {Rel: "member"},
		// Of no type of the model.
		{Type: "bot", Id: "1"}, {Type: "viewer", Id: "1"}, {Type: "member", Id: "1"}, {Type: "bot", Id: "1", Rel: "member"}, {Type: strings.Repeat("a", 33), Id: "1"}, {Type: "users", Id: "ann"},
		// Of a type that has no such relation.
		{Type: "team", Id: "a", Rel: "owner"}, {Type: "user", Id: "ann", Rel: "member"}, {Type: "doc", Id: "1", Rel: "doc"}, {Type: "doc", Id: "1", Rel: "member"}, {Type: "team", Id: "a", Rel: "members"},
		{Type: long, Id: long, Rel: long},
	}
}

// badBudgets aren't from 1 to MaxBudget.
func badBudgets() []int {
	return []int{0, -1, -2, api.MaxBudget + 1, -api.MaxBudget, math.MaxInt, math.MinInt}
}

// right is a question that nothing is wrong with.
func right() api.Query {
	return api.Query{Object: api.Object{Type: "doc", Id: "1"}, Rel: "viewer", Subject: subject("user:ann"), Ctx: with("at: 9"), Budget: 1000}
}

// broken is a question, and a source, of which each of these errors holds.
func broken(src store.Source, isWrong func(e api.Errno) bool) (store.Source, api.Query) {
	q := right()
	if isWrong(api.ErrNil) {
		src = nil
	}
	if isWrong(api.ErrType) {
		q.Object.Type = "file"
	}
	if isWrong(api.ErrId) {
		q.Object.Id = "*"
	}
	if isWrong(api.ErrRelation) {
		q.Rel = "writer"
	}
	if isWrong(api.ErrSubject) {
		q.Subject = subject("user:*")
	}
	if isWrong(api.ErrArgs) {
		q.Ctx = make([]api.Arg, 17)
	}
	switch {
	case isWrong(api.ErrArg):
		q.Budget = 0
	case isWrong(api.ErrBudget):
		q.Budget = 1
	}
	return src, q
}

// P17.2, P17.3: each error of Ask's row in the table, and the first one where several hold at once.
func TestAskInOrder(t *testing.T) {
	src := example(t)
	errs := []api.Errno{api.ErrNil, api.ErrType, api.ErrId, api.ErrRelation, api.ErrSubject, api.ErrArgs, api.ErrArg, api.ErrBudget}
	for wrong := range 1 << len(errs) {
		isWrong := func(e api.Errno) bool { return wrong>>slices.Index(errs, e)&1 == 1 }
		none, q := broken(src, isWrong)
		first := slices.IndexFunc(errs, isWrong)
		want := api.Verdict{Err: api.ErrBudget, Steps: 1}
		switch {
		case first < 0:
			if v := ask(t, src, q); !v.Held {
				t.Errorf("%+v", v)
			}
			continue
		case errs[first] != api.ErrBudget:
			want = api.Verdict{Err: errs[first]}
		}
		if v, e := check.Ask(none, q); v != want || e != want.Err {
			t.Errorf("%+v: %+v, %d, want %+v", q, v, e, want)
		}
	}
}

// P17.4: the same of New, and of its Asker.
func TestAskerInOrder(t *testing.T) {
	src := example(t)
	errs := []api.Errno{api.ErrNil, api.ErrSubject, api.ErrArgs, api.ErrType, api.ErrId, api.ErrRelation, api.ErrArg, api.ErrBudget}
	for wrong := range 1 << len(errs) {
		isWrong := func(e api.Errno) bool { return wrong>>slices.Index(errs, e)&1 == 1 }
		none, q := broken(src, isWrong)
		first := slices.IndexFunc(errs, isWrong)
		a, e := check.New(none, q.Subject, q.Ctx)
		if 0 <= first && first < 3 {
			if a != nil || e != errs[first] {
				t.Errorf("New: %v, %d, want %d", a, e, errs[first])
			}
			if v, e := a.Ask(q.Object, q.Rel, q.Budget); v != (api.Verdict{Err: api.ErrNil}) || e != api.ErrNil {
				t.Errorf("of no Asker: %+v, %d", v, e)
			}
			continue
		}
		v, e := a.Ask(q.Object, q.Rel, q.Budget)
		want := api.Verdict{Held: true, Steps: v.Steps}
		if first >= 0 {
			want = api.Verdict{Err: errs[first]}
		}
		if want.Err == api.ErrBudget {
			want.Steps = 1
		}
		if v != want || e != want.Err || v.Steps > q.Budget && e == api.OK {
			t.Errorf("%+v: %+v, %d, want %+v", q, v, e, want)
		}
	}
}

// P17.2, P17.4: each way in which there is no source, whatever else.
func TestNoSource(t *testing.T) {
	for _, none := range noSources(t) {
		for _, q := range []api.Query{right(), {}, {Object: right().Object, Rel: "viewer", Subject: subject("user:*")}} {
			for _, q.Budget = range append(badBudgets(), 1, api.MaxBudget) {
				wantRefused(t, none, q, api.ErrNil)
			}
		}
		for _, s := range append(badSubjects(), subject("user:ann")) {
			for _, ctx := range append(badArgs(), nil) {
				if a, e := check.New(none, s, ctx); a != nil || e != api.ErrNil {
					t.Errorf("New: %v, %d", a, e)
				}
			}
		}
	}
}

// P17.4: no Asker answers ErrNil, whatever is asked.
func TestNoAsker(t *testing.T) {
	var none *check.Asker
	for _, a := range []*check.Asker{none, {}} {
		for _, o := range []api.Object{{}, {Type: "doc", Id: "1"}, {Type: "file", Id: "*"}} {
			for _, budget := range append(badBudgets(), 1, api.MaxBudget) {
				if v, e := a.Ask(o, "viewer", budget); v != (api.Verdict{Err: api.ErrNil}) || e != api.ErrNil {
					t.Errorf("%+v, %d", v, e)
				}
			}
		}
	}
}

// wantBoth asks Ask, and an Asker with the same subject and arguments, for an error.
func wantBoth(t *testing.T, src store.Source, a *check.Asker, q api.Query, want api.Errno) {
	t.Helper()
	wantRefused(t, src, q, want)
	if v, e := a.Ask(q.Object, q.Rel, q.Budget); v != (api.Verdict{Err: want}) || e != want {
		t.Errorf("Asker.Ask of %+v: %+v, %d, want %d", q, v, e, want)
	}
}

// P17.2, P17.4: each way in which what is asked for can be wrong; and an Asker goes on as if nobody had asked.
func TestEachGoalRefused(t *testing.T) {
	src := example(t)
	a := asker(t, src, right().Subject, right().Ctx)
	for _, typ := range []string{"", "file", "Doc", "do", "docs", "doc ", "office", "viewer", "or", "*", strings.Repeat("d", 1<<20)} {
		q := right()
		q.Object.Type = typ
		wantBoth(t, src, a, q, api.ErrType)
	}
	for _, id := range []string{"", "*", "a b", "a:b", "a#b", "é", strings.Repeat("a", 65), "\x00", strings.Repeat("a", 1<<20)} {
		q := right()
		q.Object.Id = id
		wantBoth(t, src, a, q, api.ErrId)
	}
	for _, rel := range []string{"", "writer", "member", "view", "viewers", "Viewer", "doc", "user", "*", strings.Repeat("r", 1<<20)} {
		q := right()
		q.Rel = rel
		wantBoth(t, src, a, q, api.ErrRelation)
	}
	for _, budget := range badBudgets() {
		q := right()
		q.Budget = budget
		wantBoth(t, src, a, q, api.ErrArg)
	}
	// A type without relations is one all the same.
	q := api.Query{Object: api.Object{Type: "user", Id: "ann"}, Rel: "member", Subject: right().Subject, Ctx: right().Ctx, Budget: 1}
	wantBoth(t, src, a, q, api.ErrRelation)
	q.Object.Id = "*"
	wantBoth(t, src, a, q, api.ErrId)
	wantBoth(t, src, a, api.Query{Subject: right().Subject}, api.ErrType)
	fresh := asker(t, src, right().Subject, right().Ctx)
	if v, e := a.Ask(right().Object, "viewer", 1000); !v.Held || e != api.OK {
		t.Errorf("%+v, %d", v, e)
	} else if w, _ := fresh.Ask(right().Object, "viewer", 1000); w != v {
		t.Errorf("%+v behind what was refused, else %+v", v, w)
	}
}

// P17.2, P17.4: each way in which who asks, and with what, can be wrong.
func TestEachSubjectRefused(t *testing.T) {
	src := example(t)
	for _, s := range badSubjects() {
		for _, ctx := range append(badArgs(), nil, with("at: 9")) {
			q := right()
			q.Subject, q.Ctx = s, ctx
			wantRefused(t, src, q, api.ErrSubject)
			if a, e := check.New(src, s, ctx); a != nil || e != api.ErrSubject {
				t.Errorf("New(.., %q): %v, %d", s, a, e)
			}
		}
	}
	for _, ctx := range badArgs() {
		for _, s := range []string{"user:ann", "team:a", "team:a#member", "doc:zoe#viewer", "user:zoe"} {
			q := right()
			q.Subject, q.Ctx = subject(s), ctx
			wantRefused(t, src, q, api.ErrArgs)
			if a, e := check.New(src, subject(s), ctx); a != nil || e != api.ErrArgs {
				t.Errorf("New(.., %v): %v, %d", ctx, a, e)
			}
		}
	}
}

// P17.2: what is at the limits is let through.
func TestLetThrough(t *testing.T) {
	src := example(t)
	var all []api.Arg
	for _, name := range strings.Split("abcdefghijklmnop", "") {
		all = append(all, whole(name, 1))
	}
	long := strings.Repeat("a", 64)
	wantOf(t, src, "user:"+long, all, "doc:4 viewer")
	wantOf(t, src, "team:"+long+"#member", all, "team:"+long+" member")
	// An object of a type that has no relations, or that no tuple names, has nothing but is one.
	for _, s := range []string{"team:a", "doc:nobody", "doc:" + long} {
		wantOf(t, src, s, all)
	}
	q := query(src, grant("doc:4 viewer"), subject("user:ann"), all)
	for _, q.Budget = range []int{api.MaxBudget, api.MaxBudget - 1, most(src)} {
		if v := ask(t, src, q); !v.Held {
			t.Errorf("%+v", v)
		}
	}
	q.Object.Id = long
	if v := ask(t, src, q); v.Held {
		t.Errorf("%+v", v)
	}
}

// A model of which nothing can be asked, and one of which little can.
func TestSmallModels(t *testing.T) {
	src := snapOf(t, "type user")
	q := api.Query{Object: api.Object{Type: "user", Id: "a"}, Rel: "r", Subject: subject("user:a"), Budget: 1}
	wantRefused(t, src, q, api.ErrRelation)
	a := asker(t, src, subject("user:a"), nil)
	if v, e := a.Ask(q.Object, "r", 1); v != (api.Verdict{Err: api.ErrRelation}) || e != api.ErrRelation {
		t.Errorf("%+v, %d", v, e)
	}
	src = snapWith(t, model(t, "type a relation r: r"), nil)
	wantOf(t, src, "a:1", nil)
	wantOf(t, src, "a:1#r", nil, "a:1 r")
	none := store.Source(snapWith(t, model(t, ""), nil))
	wantRefused(t, none, q, api.ErrType)
	if a, e := check.New(none, subject("user:a"), nil); a != nil || e != api.ErrSubject {
		t.Errorf("%v, %d", a, e)
	}
}
