package check_test

import (
	"slices"
	"testing"

	"latchkey/api"
	"latchkey/store"
)

// P17.2: over an overlay what is laid is counted in, what is taken away isn't, and the source goes on as it was.
func TestOverlay(t *testing.T) {
	src := example(t)
	ann := []string{"team:a member", "team:b member", "doc:1 viewer", "doc:2 blocked", "doc:4 viewer"}
	up := laid(t, src, facts("team:b#member@user:bob", "doc:1#blocked@user:ann", "doc:5#viewer@user:*"), facts("doc:2#blocked@user:ann", "doc:4#viewer@user:*", "doc:9#viewer@user:*"))
	wantOf(t, up, "user:ann", nil, "team:a member", "team:b member", "doc:1 blocked", "doc:5 viewer")
	wantOf(t, up, "user:bob", nil, "team:a member", "team:b member", "doc:1 viewer", "doc:2 viewer", "doc:3 viewer", "doc:5 viewer")
	wantOf(t, src, "user:ann", nil, ann...)
	// One over the other: what is laid last goes ahead.
	top := laid(t, up, facts("doc:4#viewer@user:*", "doc:2#blocked@user:ann"), facts("doc:1#blocked@user:ann", "doc:5#viewer@user:*", "team:b#member@user:bob"))
	wantOf(t, top, "user:ann", nil, ann...)
	wantOf(t, top, "user:bob", nil, "doc:4 viewer")
}

// P17.2: of a tuple of the same key the one that is laid last says under which condition it counts.
func TestOverlayOfConditions(t *testing.T) {
	src := snapOf(t, "type user type doc relation viewer: [user with late, user] cond late(at: int): at > 9", "doc:1#viewer@user:ann with late", "doc:2#viewer@user:ann with late{at: 3}", "doc:3#viewer@user:ann")
	up := laid(t, src, facts("doc:1#viewer@user:ann", "doc:2#viewer@user:ann with late", "doc:3#viewer@user:ann with late{at: 12}"), nil)
	wantOf(t, src, "user:ann", nil, "doc:3 viewer")
	wantOf(t, src, "user:ann", with("at: 10"), "doc:1 viewer", "doc:3 viewer")
	wantOf(t, up, "user:ann", nil, "doc:1 viewer", "doc:3 viewer")
	wantOf(t, up, "user:ann", with("at: 10"), "doc:1 viewer", "doc:2 viewer", "doc:3 viewer")
	wantOf(t, up, "user:ann", with("at: 9"), "doc:1 viewer", "doc:3 viewer")
}

// The same tuples are the same answers, with the same steps, however they are laid: written all at once, in another order, or one by one over one another.
func TestHoweverLaid(t *testing.T) {
	want := example(t)
	wantSame := func(src store.Source) {
		t.Helper()
		for _, s := range []string{"user:ann", "user:bob", "team:b#member"} {
			for _, g := range grantsOf(want) {
				q := query(want, g, subject(s), nil)
				if v, w := ask(t, want, q), ask(t, src, q); v != w {
					t.Errorf("%s has %s: %+v, want %+v", s, grantText(g), w, v)
				}
			}
		}
	}
	for first := range exampleFacts() {
		l := slices.Concat(exampleFacts()[first:], exampleFacts()[:first])
		slices.Reverse(l)
		wantSame(snapOf(t, exampleText, l...))
		src := store.Source(snapOf(t, exampleText))
		for _, s := range l {
			src = laid(t, src, facts(s), nil)
		}
		wantSame(src)
		for _, s := range l {
			src = laid(t, src, nil, facts(s))
		}
		wantOf(t, src, "user:ann", nil)
	}
}

// P17.2: a snapshot answers of its own revision, whatever is written behind it.
func TestSnapshotsStay(t *testing.T) {
	s, _ := store.New(model(t, exampleText), api.Limits{Tuples: 100, Keep: 1}, 0)
	var l []*store.Snap
	write := func(kind int, text string) {
		if _, e := s.Write([]api.Change{{Kind: kind, Tuple: fact(text)}}, nil); e != api.OK {
			t.Fatal(text, e)
		}
		snap, _ := s.Snap(s.Newest())
		l = append(l, snap)
	}
	write(api.ChangeInsert, "team:a#member@user:ann")
	write(api.ChangeInsert, "doc:1#viewer@team:a#member")
	write(api.ChangeInsert, "doc:2#parent@doc:1")
	write(api.ChangeInsert, "doc:1#blocked@user:ann")
	write(api.ChangeDelete, "team:a#member@user:ann")
	for i, want := range [][]string{
		{"team:a member"},
		{"team:a member", "doc:1 viewer"},
		{"team:a member", "doc:1 viewer", "doc:2 viewer"},
		{"team:a member", "doc:1 blocked"},
		{"doc:1 blocked"},
	} {
		wantOf(t, l[i], "user:ann", nil, want...)
	}
}
