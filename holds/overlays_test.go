package holds_test

import (
	"slices"
	"testing"

	"latchkey/api"
	"latchkey/store"
)

// P16.1 to P16.4: the same over an overlay: what is laid is counted in, what is taken away isn't, and the source goes on as it was.
func TestOverlay(t *testing.T) {
	src := example(t)
	up := laid(t, src, facts("team:b#member@user:bob", "doc:1#banned@team:a#member", "doc:4#viewer@user:*"), facts("team:a#member@user:ann", "doc:2#owner@user:bob", "doc:9#viewer@user:*"))
	wantOf(t, up, "user:ann", nil, "doc:2 banned", "doc:2 viewer", "doc:4 reader", "doc:4 viewer")
	wantOf(t, up, "user:bob", with("at: 9"), "team:a member", "team:b member", "folder:f viewer", "doc:1 banned", "doc:1 viewer", "doc:2 reader", "doc:2 viewer", "doc:3 owner", "doc:3 reader", "doc:3 viewer", "doc:4 reader", "doc:4 viewer")
	wantOf(t, up, "team:a#member", nil, "doc:1 banned", "doc:1 viewer", "folder:f viewer", "team:a member", "team:b member")
	wantOf(t, up, "folder:f", nil, "doc:1 home")
	// One over the other: what is laid last goes ahead.
	top := laid(t, up, facts("team:a#member@user:ann", "doc:1#home@folder:g"), facts("doc:1#banned@team:a#member", "doc:4#viewer@user:*", "team:b#member@user:bob"))
	wantOf(t, top, "user:ann", nil, "doc:1 reader", "doc:1 viewer", "doc:2 banned", "doc:2 viewer", "folder:f viewer", "team:a member", "team:b member")
	wantOf(t, top, "folder:g#viewer", nil, "doc:1 reader", "doc:1 viewer", "folder:g viewer")
	wantOf(t, src, "user:ann", nil, "doc:1 reader", "doc:1 viewer", "doc:2 banned", "doc:2 viewer", "folder:f viewer", "team:a member", "team:b member")
	// The same key under another condition, or with other arguments.
	up = laid(t, src, facts("doc:3#owner@user:bob with office", "doc:2#owner@user:bob with office{at: 20}"), nil)
	wantOf(t, up, "user:bob", nil, "doc:2 owner", "doc:2 reader", "doc:2 viewer")
	wantOf(t, up, "user:bob", with("at: 10"), "doc:2 owner", "doc:2 reader", "doc:2 viewer", "doc:3 owner", "doc:3 reader", "doc:3 viewer")
}

// The same tuples are the same answers, however they are laid: written all at once, one by one, in another order, or over one another.
func TestHoweverLaid(t *testing.T) {
	want := of(t, example(t), subject("user:ann"), with("at: 9"))
	for first := range exampleFacts() {
		l := slices.Concat(exampleFacts()[first:], exampleFacts()[:first])
		slices.Reverse(l)
		wantGrants(t, snapOf(t, exampleText, l...), subject("user:ann"), with("at: 9"), want)
		var src store.Source = snapOf(t, exampleText)
		for _, s := range l {
			src = laid(t, src, facts(s), nil)
		}
		wantGrants(t, src, subject("user:ann"), with("at: 9"), want)
		// Taken away one after the other, until there is nothing.
		for _, s := range l {
			src = laid(t, src, nil, facts(s))
		}
		wantGrants(t, src, subject("user:ann"), with("at: 9"), nil)
	}
}

// P16.1: a snapshot answers of its own revision, whatever is written behind it.
func TestSnapshotsStay(t *testing.T) {
	s, _ := store.New(model(t, exampleText), api.Limits{Tuples: 100, Keep: 1}, 0)
	var l []*store.Snap
	write := func(kind int, text string) {
		if _, e := s.Write([]api.Change{{Kind: kind, Tuple: fact(text)}}, nil); e != api.OK {
			t.Fatal(text, e)
		}
		snap, _ := s.Snap(s.Newest())
		l = append(l, snap)
	}
	write(api.ChangeInsert, "team:a#member@user:ann")
	write(api.ChangeInsert, "folder:f#viewer@team:a#member")
	write(api.ChangeInsert, "doc:1#home@folder:f")
	write(api.ChangeInsert, "doc:1#banned@user:ann")
	write(api.ChangeDelete, "team:a#member@user:ann")
	for i, want := range [][]string{
		{"team:a member"},
		{"team:a member", "folder:f viewer"},
		{"team:a member", "folder:f viewer", "doc:1 viewer", "doc:1 reader"},
		{"team:a member", "folder:f viewer", "doc:1 viewer", "doc:1 banned"},
		{"doc:1 banned"},
	} {
		wantOf(t, l[i], "user:ann", nil, want...)
	}
}
