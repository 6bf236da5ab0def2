package overlay_test

import (
	"fmt"
	"iter"
	"slices"
	"testing"

	"latchkey/api"
	"latchkey/overlay"
)

func collect(l iter.Seq[api.Tuple]) []api.Tuple { return slices.Collect(l) }

// woven is an overlay in whose walks what is laid, what is hidden and what is under it come by turns.
func woven(t *testing.T) *overlay.Overlay {
	t.Helper()
	more := facts("doc:0#owner@user:ann", "doc:1#owner@user:axe", "doc:1#owner@user:zoe", "doc:1#viewer@user:ann with d", "doc:10#owner@user:ann", "team:x#member@team:x#member", "team:z#member@user:ann", "team:z#member@user:zoe")
	return laid(t, mixedSnap(t), more, facts(mixed()[1], mixed()[5], mixed()[13]))
}

// walksOf are an overlay's sequences, each of several tuples.
func walksOf(o *overlay.Overlay) map[string]iter.Seq[api.Tuple] {
	return map[string]iter.Seq[api.Tuple]{
		"All":       o.All(),
		"Of doc":    o.Of(object("doc", "1"), "owner"),
		"Of viewer": o.Of(object("doc", "1"), "viewer"),
		"Of team":   o.Of(object("team", "x"), "member"),
		"By ann":    o.By(subject("user", "ann", "")),
		"By team":   o.By(subject("team", "x", "member")),
	}
}

// Sequences: a walk may be left anywhere, and gone through again.
func TestLeftEarly(t *testing.T) {
	for name, walk := range walksOf(woven(t)) {
		want := texts(collect(walk))
		if len(want) < 3 {
			t.Fatalf("%s: %q", name, want)
		}
		for n := range len(want) + 2 {
			var got []string
			for x := range walk {
				if len(got) == n {
					break
				}
				got = append(got, textOf(x))
			}
			if part := want[:min(n, len(want))]; !slices.Equal(got, part) {
				t.Errorf("%s, %d: %q, want %q", name, n, got, part)
			}
		}
		for range 3 {
			wantTuples(t, name+" again", walk, want...)
		}
	}
}

// Sequences: what is left isn't called any more: not by what is laid, nor by what is under it.
func TestNothingBehindTheEnd(t *testing.T) {
	for name, walk := range walksOf(woven(t)) {
		for n := range len(collect(walk)) {
			calls := 0
			walk(func(api.Tuple) bool {
				calls++
				return calls <= n
			})
			if calls != n+1 {
				t.Errorf("%s: %d calls, want %d", name, calls, n+1)
			}
		}
	}
}

// Sequences: a walk may be begun again while another round of it is on, and other walks too.
func TestWithinOneAnother(t *testing.T) {
	o := woven(t)
	for name, walk := range walksOf(o) {
		want := texts(collect(walk))
		var outer []string
		for x := range walk {
			outer = append(outer, textOf(x))
			wantTuples(t, name+" within itself", walk, want...)
			for range walk {
				break
			}
			if !slices.Contains(texts(collect(o.Of(x.Object, x.Rel))), textOf(x)) || !slices.Contains(texts(collect(o.By(x.Subject))), textOf(x)) {
				t.Errorf("%s: %s isn't there from all sides", name, textOf(x))
			}
		}
		if !slices.Equal(outer, want) {
			t.Errorf("%s around itself: %q, want %q", name, outer, want)
		}
	}
}

// P13.2: All is what Of tells of each object and relation, and what By tells of each subject.
func TestFromAllSides(t *testing.T) {
	o := laid(t, woven(t), facts("doc:1#owner@user:mid"), facts("doc:0#owner@user:ann"))
	all := texts(collect(o.All()))
	var of, by []string
	met := map[any]bool{}
	for x := range o.All() {
		if g := (api.Grant{Object: x.Object, Rel: x.Rel}); !met[g] {
			met[g] = true
			of = append(of, texts(collect(o.Of(x.Object, x.Rel)))...)
		}
		if !met[x.Subject] {
			met[x.Subject] = true
			by = append(by, texts(collect(o.By(x.Subject)))...)
		}
	}
	if !slices.Equal(of, all) || !slices.Equal(rising(by), all) || len(by) != len(all) || len(all) != o.Len() {
		t.Errorf("%q, %q, %q, %d", all, of, by, o.Len())
	}
}

// Sequences: no walk is nil, not even of an overlay that isn't there.
func TestNoWalkIsNil(t *testing.T) {
	var none *overlay.Overlay
	for i, o := range []*overlay.Overlay{woven(t), none, {}} {
		for k, walk := range []iter.Seq[api.Tuple]{o.All(), o.Of(api.Object{}, ""), o.By(api.Subject{})} {
			if walk == nil {
				t.Error(fmt.Sprint(i, k))
			}
		}
	}
}
