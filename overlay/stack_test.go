package overlay_test

import (
	"fmt"
	"testing"

	"latchkey/api"
	"latchkey/overlay"
	"latchkey/store"
)

// P13.3: what is laid over an overlay goes ahead of what that one has laid: what it hides laid back, what it laid taken away, or laid anew.
func TestOverAnOverlay(t *testing.T) {
	src := exampleSnap(t)
	low := laid(t, src, facts("doc:1#viewer@user:cat", "doc:1#viewer@user:bob with office"), facts("doc:2#owner@user:ann", "doc:8#owner@user:ann"))
	has := []string{"doc:1#owner@user:ann", "doc:1#viewer@user:bob with office", "doc:1#viewer@user:cat"}
	wantHas(t, low, has...)
	for _, c := range []struct {
		more, less []string
		want       []string
	}{
		{nil, nil, has},
		{[]string{"doc:2#owner@user:ann"}, nil, append(has[:3:3], "doc:2#owner@user:ann")},
		{[]string{"doc:8#owner@user:ann"}, nil, append(has[:3:3], "doc:8#owner@user:ann")},
		{nil, []string{"doc:1#viewer@user:cat"}, has[:2]},
		{[]string{"doc:1#viewer@user:cat with office{at: 9}"}, nil, []string{has[0], has[1], "doc:1#viewer@user:cat with office{at: 9}"}},
		{[]string{"doc:1#viewer@user:bob"}, nil, []string{has[0], "doc:1#viewer@user:bob", has[2]}},
		{[]string{"doc:1#viewer@user:bob with office{at: 9}"}, nil, []string{has[0], "doc:1#viewer@user:bob with office{at: 9}", has[2]}},
		{nil, []string{"doc:1#viewer@user:bob"}, []string{has[0], has[2]}},
		{nil, []string{"doc:2#owner@user:ann", "doc:8#owner@user:ann"}, has},
		{[]string{"doc:2#owner@user:ann"}, []string{"doc:1#viewer@user:cat", "doc:1#viewer@user:bob", "doc:1#owner@user:ann"}, []string{"doc:2#owner@user:ann"}},
	} {
		wantHas(t, laid(t, low, facts(c.more...), facts(c.less...)), c.want...)
		// What stands between them says nothing of it.
		wantHas(t, laid(t, laid(t, low, nil, facts("doc:9#owner@user:zoe")), facts(c.more...), facts(c.less...)), c.want...)
	}
	wantHas(t, low, has...)
	wantHas(t, src, "doc:1#owner@user:ann", "doc:1#viewer@user:bob", "doc:2#owner@user:ann")
}

// P13.3: two overlays over one source know nothing of one another.
func TestTwoOverOne(t *testing.T) {
	src := exampleSnap(t)
	low := laid(t, src, facts("doc:3#owner@user:ann"), nil)
	one := laid(t, low, facts("doc:4#owner@user:ann"), facts("doc:1#owner@user:ann"))
	two := laid(t, low, facts("doc:5#owner@user:ann"), facts("doc:3#owner@user:ann"))
	wantHas(t, one, "doc:1#viewer@user:bob", "doc:2#owner@user:ann", "doc:3#owner@user:ann", "doc:4#owner@user:ann")
	wantHas(t, two, "doc:1#owner@user:ann", "doc:1#viewer@user:bob", "doc:2#owner@user:ann", "doc:5#owner@user:ann")
	wantHas(t, low, "doc:1#owner@user:ann", "doc:1#viewer@user:bob", "doc:2#owner@user:ann", "doc:3#owner@user:ann")
}

// P13.3: many overlays, one over the other, are what all of them together say, the last word of a key going ahead.
func TestManyOverOneAnother(t *testing.T) {
	var src store.Source = exampleSnap(t)
	want := []string{"doc:1#owner@user:ann", "doc:1#viewer@user:bob", "doc:2#owner@user:ann"}
	for i := range 200 {
		more := fmt.Sprintf("doc:1#viewer@user:u%d", i%9)
		if i%2 == 0 {
			more += fmt.Sprintf(" with office{at: %d}", i)
		}
		less := fmt.Sprintf("doc:1#viewer@user:u%d", (i+4)%9)
		src = laid(t, src, facts(more), facts(less))
		want = put(cut(want, less), more)
		if src.Len() != len(want) {
			t.Fatalf("%d: %d, want %d", i, src.Len(), len(want))
		}
	}
	wantHas(t, src, want...)
}

// P13.3: the source goes on as it was, and so does the overlay, whatever is written to the store behind the snapshot, and though its revision be gone.
func TestTheStoreGoesOn(t *testing.T) {
	s := stored(t, model(t, wideText), facts(mixed()...)...)
	snap := newest(t, s)
	low := laid(t, snap, facts("doc:3#owner@user:ann", "doc:10#viewer@user:ann with c"), facts(mixed()[0], mixed()[12]))
	high := laid(t, low, facts(mixed()[0]), facts("doc:3#owner@user:ann"))
	walk := low.All()
	were := []string{wholeOf(snap), wholeOf(low), wholeOf(high), wholeTuples(collect(walk))}
	for i, text := range mixed() {
		wantWrite(t, s, api.Change{Kind: api.ChangeDelete, Tuple: fact(text)})
		wantWrite(t, s, changes(api.ChangeTouch, fact("doc:3#owner@user:ann"), fact(fmt.Sprintf("doc:%d#owner@user:new", i)))...)
	}
	if _, e := s.Change(model(t, wideText+" type more")); e != api.OK {
		t.Fatal(e)
	}
	if e := s.Trim(s.Newest()); e != api.OK {
		t.Fatal(e)
	}
	for i, now := range []string{wholeOf(snap), wholeOf(low), wholeOf(high), wholeTuples(collect(walk))} {
		if now != were[i] {
			t.Errorf("%d:\n%s\nbut\n%s", i, were[i], now)
		}
	}
	wantHas(t, laid(t, high, nil, nil), cut(put(mixed(), "doc:10#viewer@user:ann with c"), mixed()[12])...)
}

// Ways: an overlay stands behind Source, and answers as it does by itself.
func TestOverlayIsASource(t *testing.T) {
	o := laid(t, mixedSnap(t), facts("doc:3#owner@user:ann"), facts("doc:1#owner@user:ann"))
	var src store.Source = o
	wantHas(t, src, put(cut(mixed(), "doc:1#owner@user:ann"), "doc:3#owner@user:ann")...)
	if _, e := overlay.Over(src, nil, nil); e != api.OK {
		t.Errorf("%d", e)
	}
}
