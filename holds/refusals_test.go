package holds_test

import (
	"slices"
	"strings"
	"testing"

	"latchkey/api"
	"latchkey/holds"
	"latchkey/overlay"
	"latchkey/store"
)

// noSources are all sources that are none.
func noSources(t *testing.T) []store.Source {
	t.Helper()
	var snap *store.Snap
	var o *overlay.Overlay
	refused, _ := overlay.Over(nil, nil, nil)
	s, _ := store.New(model(t, "type user"), api.Limits{Tuples: 1, Keep: 1}, 0)
	gone, _ := s.Snap(1)
	return []store.Source{nil, snap, o, refused, gone, &store.Snap{}, &overlay.Overlay{}}
}

// badArgs are arguments that may not be.
func badArgs() [][]api.Arg {
	var many []api.Arg
	for _, name := range strings.Split("abcdefghijklmnopq", "") {
		many = append(many, whole(name, 1))
	}
	return [][]api.Arg{
		many,
		make([]api.Arg, 1),
		make([]api.Arg, 17),
		make([]api.Arg, 100000),
		{whole("b", 1), whole("a", 1)},
		{whole("a", 1), whole("a", 1)},
		{whole("or", 1)},
		{whole("", 1)},
		{whole("A", 1)},
		{whole(strings.Repeat("a", 33), 1)},
		{{Name: "at"}},
		{{Name: "at", Value: api.Value{Kind: 6}}},
		{{Name: "at", Value: api.Value{Kind: -1}}},
		{{Name: "at", Value: api.Value{Kind: api.ValInt, Text: "x"}}},
		{{Name: "at", Value: api.Value{Kind: api.ValText, Text: strings.Repeat("a", 257)}}},
		{{Name: "at", Value: api.Value{Kind: api.ValTexts, Texts: make([]string, 33)}}},
		{whole("a", 1), {Name: "b"}},
	}
}

// badSubjects are neither one nor a set of the examples' model.
func badSubjects() []api.Subject {
	l := []api.Subject{
		// All of a type.
		{Type: "user", Id: "*"}, {Type: "team", Id: "*"}, {Type: "bot", Id: "*"},
		// None at all.
		{}, {Type: "user"}, {Id: "ann"}, {Type: "user", Id: "a b"}, {Type: "user", Id: strings.Repeat("a", 65)}, {Type: "User", Id: "ann"}, {Type: "team", Id: "*", Rel: "member"}, {Type: "team", Id: "a", Rel: "Member"}, {Type: "team", Id: "a", Rel: "or"}, {Type: "team", Rel: "member"}, {Type: "user", Id: "ann", Rel: " "}, {Rel: "member"},
		// Of no type of the model.
		{Type: "bot", Id: "1"}, {Type: "office", Id: "1"}, {Type: "member", Id: "1"}, {Type: "bot", Id: "1", Rel: "member"}, {Type: strings.Repeat("a", 33), Id: "1"}, {Type: "users", Id: "ann"},
		// Of a type that has no such relation.
		{Type: "team", Id: "a", Rel: "owner"}, {Type: "user", Id: "ann", Rel: "member"}, {Type: "doc", Id: "1", Rel: "doc"}, {Type: "folder", Id: "f", Rel: "office"}, {Type: "team", Id: "a", Rel: "members"},
	}
	return append(l, api.Subject{Type: strings.Repeat("x", 1<<20), Id: strings.Repeat("x", 1<<20), Rel: strings.Repeat("x", 1<<20)})
}

// P16.1, P16.2: ErrNil, ErrSubject, ErrArgs, whichever hold at once.
func TestRefused(t *testing.T) {
	src, ann := example(t), subject("user:ann")
	for _, none := range noSources(t) {
		for _, s := range append(badSubjects(), ann) {
			for _, ctx := range append(badArgs(), nil, with("at: 9")) {
				wantRefused(t, none, s, ctx, api.ErrNil)
			}
		}
	}
	for _, s := range badSubjects() {
		for _, ctx := range append(badArgs(), nil, with("at: 9")) {
			wantRefused(t, src, s, ctx, api.ErrSubject)
		}
	}
	for _, ctx := range badArgs() {
		for _, s := range []string{"user:ann", "team:a", "team:a#member", "doc:zoe#reader", "user:zoe"} {
			wantRefused(t, src, subject(s), ctx, api.ErrArgs)
		}
	}
}

// P16.3: ErrNil, ErrType, ErrId, ErrRelation, ErrSubject, ErrArgs, whichever hold at once.
func TestHasRefused(t *testing.T) {
	errs := []api.Errno{api.ErrNil, api.ErrType, api.ErrId, api.ErrRelation, api.ErrSubject, api.ErrArgs}
	for wrong := range 1 << len(errs) {
		isWrong := func(e api.Errno) bool { return wrong>>slices.Index(errs, e)&1 == 1 }
		q := api.Query{Object: api.Object{Type: "doc", Id: "1"}, Rel: "reader", Subject: subject("user:ann"), Ctx: with("at: 9")}
		var src store.Source = example(t)
		if isWrong(api.ErrNil) {
			src = nil
		}
		if isWrong(api.ErrType) {
			q.Object.Type = "file"
		}
		if isWrong(api.ErrId) {
			q.Object.Id = "*"
		}
		if isWrong(api.ErrRelation) {
			q.Rel = "writer"
		}
		if isWrong(api.ErrSubject) {
			q.Subject = subject("user:*")
		}
		if isWrong(api.ErrArgs) {
			q.Ctx = make([]api.Arg, 17)
		}
		first := slices.IndexFunc(errs, isWrong)
		if first >= 0 {
			wantNoHas(t, src, q, errs[first])
		} else if yes, e := holds.Has(src, q); !yes || e != api.OK {
			t.Errorf("%v, %d", yes, e)
		}
	}
}

// P16.3: each way in which one of what is asked can be wrong.
func TestHasEachRefusal(t *testing.T) {
	src := example(t)
	right := api.Query{Object: api.Object{Type: "doc", Id: "1"}, Rel: "reader", Subject: subject("user:ann")}
	for _, none := range noSources(t) {
		wantNoHas(t, none, right, api.ErrNil)
		wantNoHas(t, none, api.Query{}, api.ErrNil)
	}
	for _, typ := range []string{"", "file", "Doc", "do", "docs", "doc ", "office", "reader", "or", "*", strings.Repeat("d", 1<<20)} {
		q := right
		q.Object.Type = typ
		wantNoHas(t, src, q, api.ErrType)
	}
	for _, id := range []string{"", "*", "a b", "a:b", "a#b", "é", strings.Repeat("a", 65), "\x00", strings.Repeat("a", 1<<20)} {
		q := right
		q.Object.Id = id
		wantNoHas(t, src, q, api.ErrId)
	}
	for _, rel := range []string{"", "writer", "member", "read", "readers", "Reader", "doc", "office", "*", strings.Repeat("r", 1<<20)} {
		q := right
		q.Rel = rel
		wantNoHas(t, src, q, api.ErrRelation)
	}
	for _, s := range badSubjects() {
		q := right
		q.Subject = s
		wantNoHas(t, src, q, api.ErrSubject)
	}
	for _, ctx := range badArgs() {
		q := right
		q.Ctx = ctx
		wantNoHas(t, src, q, api.ErrArgs)
	}
	// A type without relations is one all the same.
	wantNoHas(t, src, api.Query{Object: api.Object{Type: "user", Id: "ann"}, Rel: "member", Subject: subject("user:ann")}, api.ErrRelation)
	wantNoHas(t, src, api.Query{Object: api.Object{Type: "user", Id: "*"}, Rel: "member", Subject: subject("user:ann")}, api.ErrId)
	wantNoHas(t, src, api.Query{}, api.ErrType)
}

// P16.1 to P16.3: what is at the limits is let through.
func TestLetThrough(t *testing.T) {
	src := example(t)
	var most []api.Arg
	for _, name := range strings.Split("abcdefghijklmnop", "") {
		most = append(most, whole(name, 1))
	}
	long := strings.Repeat("a", 64)
	wantOf(t, src, "user:"+long, most, "doc:2 reader", "doc:2 viewer")
	wantOf(t, src, "team:"+long+"#member", most, "team:"+long+" member")
	// An object of a type that has no relations, or that no tuple names, has nothing but is one.
	for _, s := range []string{"team:a", "folder:nobody", "doc:1", "doc:" + long} {
		wantOf(t, src, s, most)
	}
	if has(t, src, subject("user:ann"), most, grant("doc:"+long+" reader")) || !has(t, src, subject("doc:"+long+"#reader"), most, grant("doc:"+long+" reader")) {
		t.Error("an id of 64 bytes")
	}
}

// P16.3: q.Budget isn't looked at, and nobody runs out of it.
func TestBudgetIsNotLookedAt(t *testing.T) {
	src := example(t)
	for _, b := range budgets() {
		q := api.Query{Object: api.Object{Type: "doc", Id: "1"}, Rel: "reader", Subject: subject("user:ann"), Budget: b}
		if yes, e := holds.Has(src, q); !yes || e != api.OK {
			t.Errorf("%d: %v, %d", b, yes, e)
		}
		q.Object.Id = "2"
		if yes, e := holds.Has(src, q); yes || e != api.OK {
			t.Errorf("%d: %v, %d", b, yes, e)
		}
	}
}
