package unfold_test

import (
	"testing"

	"latchkey/api"
	"latchkey/unfold"
)

// reader is the chapter's first example.
func reader() []string {
	return []string{
		"not doc:1 reader 2",
		"same doc:1 viewer 1",
		"or doc:1 viewer 2",
		"this doc:1 viewer team:a#member user:ann",
		"from doc:1 home 1",
		"this folder:f owner user:bob",
		"same doc:1 banned 1",
		"this doc:1 banned user:bob",
	}
}

// P18.1, P18.2: example 1, also with as great a deep as there may be.
func TestExampleReader(t *testing.T) {
	src := example(t)
	for _, deep := range []int{3, 4, 15, 16} {
		l := wantOf(t, src, "doc:1 reader", nil, deep, reader()...)
		if !unfold.Whole(l) {
			t.Error("it isn't whole")
		}
		wantSubjects(t, l, "team:a#member", "user:ann")
	}
}

// P18.1 to P18.3: example 2: what is cut.
func TestExampleCut(t *testing.T) {
	src := example(t)
	two := wantOf(t, src, "doc:1 reader", nil, 2,
		"not doc:1 reader 2",
		"same doc:1 viewer 1",
		"or doc:1 viewer 2",
		"this doc:1 viewer team:a#member user:ann",
		"from doc:1 home cut",
		"same doc:1 banned 1",
		"this doc:1 banned user:bob")
	one := wantOf(t, src, "doc:1 reader", nil, 1, "not doc:1 reader 2", "same doc:1 viewer cut", "same doc:1 banned cut")
	for _, l := range [][]api.Branch{two, one} {
		wantNone(t, l, api.ErrBudget)
		if unfold.Whole(l) {
			t.Error("it is whole")
		}
	}
	// No tuple leads from there, so nothing is cut.
	l := wantOf(t, src, "doc:2 reader", nil, 2,
		"not doc:2 reader 2",
		"same doc:2 viewer 1",
		"or doc:2 viewer 2",
		"this doc:2 viewer",
		"from doc:2 home",
		"same doc:2 banned 1",
		"this doc:2 banned")
	wantSubjects(t, l)
	if !unfold.Whole(l) {
		t.Error("it isn't whole")
	}
}

// P18.1: example 3.
func TestExampleDeep(t *testing.T) {
	src := example(t)
	wantRefused(t, src, grant("doc:1 viewer"), nil, 17, api.ErrArg)
	wantRefused(t, src, grant("doc:1 viewer"), nil, 0, api.ErrArg)
	for deep := 1; deep <= api.MaxDeep; deep++ {
		wantSubjects(t, wantOf(t, src, "team:a member", nil, deep, "this team:a member"))
	}
}

// P18.1: example 4: a ring of relations.
func TestExampleRing(t *testing.T) {
	src := snapOf(t, "type t relation a: [t] or a", "t:1#a@t:2")
	l := wantOf(t, src, "t:1 a", nil, 3,
		"or t:1 a 2", "this t:1 a t:2", "same t:1 a 1",
		"or t:1 a 2", "this t:1 a t:2", "same t:1 a 1",
		"or t:1 a 2", "this t:1 a t:2", "same t:1 a cut")
	wantNone(t, l, api.ErrBudget)
}

// P18.2, P18.3: example 5.
func TestExampleNoTrees(t *testing.T) {
	ab := this("user:a", "user:b")
	wantSubjects(t, ab, "user:a", "user:b")
	wantNone(t, nil, api.ErrTree)
	wantNone(t, append([]api.Branch{{Kind: api.NodeThis, Kids: 1}}, ab...), api.ErrTree)
	wantNone(t, this("user:b", "user:a"), api.ErrTree)
	wantNone(t, append(this("user:a"), ab...), api.ErrTree)
	if !unfold.Whole(nil) {
		t.Error("Whole of no branches is false")
	}
}
