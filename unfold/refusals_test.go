package unfold_test

import (
	"math"
	"slices"
	"strings"
	"testing"

	"latchkey/api"
	"latchkey/overlay"
	"latchkey/store"
	"latchkey/unfold"
)

// noSources are all sources that are none.
func noSources(t *testing.T) []store.Source {
	t.Helper()
	var snap *store.Snap
	var o *overlay.Overlay
	refused, _ := overlay.Over(nil, nil, nil)
	s, _ := store.New(model(t, "type user"), api.Limits{Tuples: 1, Keep: 1}, 0)
	gone, _ := s.Snap(1)
	return []store.Source{nil, snap, o, refused, gone, &store.Snap{}, &overlay.Overlay{}}
}

// badArgs are arguments that may not be.
func badArgs() [][]api.Arg {
	var many []api.Arg
	for _, name := range strings.Split("abcdefghijklmnopq", "") {
		many = append(many, whole(name, 1))
	}
	return [][]api.Arg{
		many,
		make([]api.Arg, 1),
		make([]api.Arg, 17),
		make([]api.Arg, 100000),
		{whole("b", 1), whole("a", 1)},
		{whole("a", 1), whole("a", 1)},
		{whole("or", 1)},
		{whole("", 1)},
		{whole("A", 1)},
		{whole(strings.Repeat("a", 33), 1)},
		{{Name: "at"}},
		{{Name: "at", Value: api.Value{Kind: 6}}},
		{{Name: "at", Value: api.Value{Kind: -1}}},
		{{Name: "at", Value: api.Value{Kind: api.ValInt, Text: "x"}}},
		{{Name: "at", Value: api.Value{Kind: api.ValText, Text: strings.Repeat("a", 257)}}},
		{{Name: "at", Value: api.Value{Kind: api.ValTexts, Texts: make([]string, 33)}}},
		{whole("a", 1), {Name: "b"}},
	}
}

// badDeeps aren't from 1 to MaxDeep.
func badDeeps() []int {
	return []int{0, -1, -2, -16, 17, 18, 32, 1 << 20, math.MaxInt, math.MinInt}
}

// tooMuch is a source in which the relation all of doc:1 unfolds to too many branches.
func tooMuch(t *testing.T) store.Source {
	t.Helper()
	return snapOf(t, exampleText+" relation all: all and (all or all)")
}

// P18.1: each error of Of's row in the table, and the first one where several hold at once.
func TestOfInOrder(t *testing.T) {
	src := tooMuch(t)
	errs := []api.Errno{api.ErrNil, api.ErrType, api.ErrId, api.ErrRelation, api.ErrArgs, api.ErrArg, api.ErrLong}
	for wrong := range 1 << len(errs) {
		isWrong := func(e api.Errno) bool { return wrong>>slices.Index(errs, e)&1 == 1 }
		from, g, ctx, deep := src, grant("doc:1 reader"), with("at: 9"), 16
		if isWrong(api.ErrLong) {
			g.Rel = "all"
		}
		if isWrong(api.ErrNil) {
			from = nil
		}
		if isWrong(api.ErrType) {
			g.Object.Type = "file"
		}
		if isWrong(api.ErrId) {
			g.Object.Id = "*"
		}
		if isWrong(api.ErrRelation) {
			g.Rel = "writer"
		}
		if isWrong(api.ErrArgs) {
			ctx = make([]api.Arg, 17)
		}
		if isWrong(api.ErrArg) {
			deep = 17
		}
		if first := slices.IndexFunc(errs, isWrong); first >= 0 {
			wantRefused(t, from, g, ctx, deep, errs[first])
		} else {
			unfolding(t, from, g, ctx, deep)
		}
	}
}

// P18.1: each way in which there is no source, whatever else.
func TestNoSource(t *testing.T) {
	deeps, args := append(badDeeps(), 1, 16), append(badArgs(), nil)
	for _, none := range noSources(t) {
		for _, g := range []api.Grant{{}, grant("doc:1 viewer"), {Object: api.Object{Type: "file", Id: "*"}, Rel: "or"}} {
			for _, deep := range deeps {
				for _, ctx := range args {
					wantRefused(t, none, g, ctx, deep, api.ErrNil)
				}
			}
		}
	}
}

// P18.1: each way in which what is asked for can be wrong.
func TestEachGoalRefused(t *testing.T) {
	src := example(t)
	for _, typ := range []string{"", "file", "Doc", "do", "docs", "doc ", "viewer", "or", "*", strings.Repeat("d", 1<<20)} {
		wantRefused(t, src, api.Grant{Object: api.Object{Type: typ, Id: "1"}, Rel: "viewer"}, nil, 1, api.ErrType)
	}
	for _, id := range []string{"", "*", "a b", "a:b", "a#b", "é", strings.Repeat("a", 65), "\x00", strings.Repeat("a", 1<<20)} {
		wantRefused(t, src, api.Grant{Object: api.Object{Type: "doc", Id: id}, Rel: "viewer"}, nil, 1, api.ErrId)
	}
	for _, rel := range []string{"", "writer", "member", "view", "viewers", "Viewer", "doc", "user", "*", strings.Repeat("r", 1<<20)} {
		wantRefused(t, src, api.Grant{Object: api.Object{Type: "doc", Id: "1"}, Rel: rel}, nil, 1, api.ErrRelation)
	}
	// A type without relations is one all the same.
	wantRefused(t, src, grant("user:ann member"), nil, 1, api.ErrRelation)
	wantRefused(t, src, api.Grant{Object: api.Object{Type: "user", Id: "*"}, Rel: "member"}, nil, 1, api.ErrId)
	wantRefused(t, src, api.Grant{}, nil, 1, api.ErrType)
	wantRefused(t, snapOf(t, ""), grant("doc:1 viewer"), nil, 1, api.ErrType)
	wantRefused(t, snapOf(t, "type doc"), grant("doc:1 viewer"), nil, 1, api.ErrRelation)
}

// P18.1: each way in which arguments and deep can be wrong.
func TestEachArgRefused(t *testing.T) {
	src := example(t)
	for _, ctx := range badArgs() {
		for _, deep := range append(badDeeps(), 1, 16) {
			wantRefused(t, src, grant("doc:1 viewer"), ctx, deep, api.ErrArgs)
		}
	}
	for _, deep := range badDeeps() {
		wantRefused(t, src, grant("doc:1 viewer"), with("at: 9"), deep, api.ErrArg)
	}
}

// P18.1: what is at the limits is let through.
func TestLetThrough(t *testing.T) {
	src := example(t)
	var all []api.Arg
	for _, name := range strings.Split("abcdefghijklmnop", "") {
		all = append(all, whole(name, 1))
	}
	wantOf(t, src, "doc:1 reader", all, 16, reader()...)
	long := "team:" + strings.Repeat("a", 64) + " member"
	wantOf(t, src, long, all, 1, "this "+long)
}

// P18.2: each error of Subjects' row in the table, and the first one where several hold at once.
func TestSubjectsInOrder(t *testing.T) {
	errs := []api.Errno{api.ErrLong, api.ErrTree, api.ErrBudget}
	for wrong := range 1 << len(errs) {
		isWrong := func(e api.Errno) bool { return wrong>>slices.Index(errs, e)&1 == 1 }
		l := not(this("user:ann", "user:bob"), same(this("user:bob")))
		if isWrong(api.ErrBudget) {
			l = not(this("user:ann", "user:bob"), cut(api.NodeSame))
		}
		if isWrong(api.ErrLong) {
			l = slices.Concat(slices.Repeat([]api.Branch{{Kind: api.NodeSame, Kids: 1}}, api.MaxBranches), l)
		}
		if isWrong(api.ErrTree) {
			l[len(l)-1].Kids--
		}
		if first := slices.IndexFunc(errs, isWrong); first >= 0 {
			wantNone(t, l, errs[first])
		} else {
			wantSubjects(t, l, "user:ann")
		}
	}
}

// P18.3: of any list.
func TestWhole(t *testing.T) {
	for kind := -1; kind < 9; kind++ {
		l := make([]api.Branch, 5000)
		for i := range l {
			l[i] = api.Branch{Kind: kind, Kids: i - 7, Subjects: make([]api.Subject, i%3)}
		}
		if !unfold.Whole(l) {
			t.Errorf("of %d it isn't whole", kind)
		}
		for _, at := range []int{0, 1, 4095, 4096, 4999} {
			l[at].Cut = true
			if unfold.Whole(l) || !unfold.Whole(l[:at]) || !unfold.Whole(l[at+1:]) || unfold.Whole(l[at:at+1]) {
				t.Errorf("of %d it is whole, cut at %d", kind, at)
			}
			l[at].Cut = false
		}
	}
	if !unfold.Whole([]api.Branch{}) || !unfold.Whole(make([]api.Branch, 3, 9)) {
		t.Error("it isn't whole")
	}
	behind := []api.Branch{{}, {Cut: true}}
	if !unfold.Whole(behind[:1]) {
		t.Error("the room behind the end is looked at")
	}
}
