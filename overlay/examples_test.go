package overlay_test

import (
	"testing"

	"latchkey/api"
	"latchkey/store"
)

// The chapter's example 1: what is laid is there from all sides, what is taken away isn't.
func TestExample1(t *testing.T) {
	o := laid(t, exampleSnap(t), facts("doc:1#viewer@user:cat"), facts("doc:2#owner@user:ann"))
	wantHas(t, o, "doc:1#owner@user:ann", "doc:1#viewer@user:bob", "doc:1#viewer@user:cat")
	wantTuples(t, "By", o.By(subject("user", "ann", "")), "doc:1#owner@user:ann")
	if o.Len() != 3 {
		t.Errorf("Len: %d", o.Len())
	}
}

// Example 2: what is laid stands in the place of what is there; of what is taken away Cond and Args say nothing.
func TestExample2(t *testing.T) {
	src := exampleSnap(t)
	o := laid(t, src, facts("doc:1#viewer@user:bob with office"), nil)
	wantHas(t, o, "doc:1#owner@user:ann", "doc:1#viewer@user:bob with office", "doc:2#owner@user:ann")
	wantTuples(t, "Of", o.Of(object("doc", "1"), "viewer"), "doc:1#viewer@user:bob with office")
	for _, s := range []string{"doc:1#viewer@user:bob", "doc:1#viewer@user:bob with office", "doc:1#viewer@user:bob with office{at: \"x\"}", "doc:1#viewer@user:bob with none{by: 1}"} {
		wantHas(t, laid(t, src, nil, facts(s)), "doc:1#owner@user:ann", "doc:2#owner@user:ann")
	}
	wantHas(t, laid(t, src, nil, facts("doc:9#owner@user:zoe")), "doc:1#owner@user:ann", "doc:1#viewer@user:bob", "doc:2#owner@user:ann")
}

// Example 3: what may be neither laid nor taken away.
func TestExample3(t *testing.T) {
	src := exampleSnap(t)
	three := facts("doc:3#owner@user:ann")
	wantRefused(t, src, api.ErrType, facts("file:1#owner@user:ann"), nil)
	wantRefused(t, src, api.ErrAllowed, facts("doc:1#owner@user:*"), nil)
	wantRefused(t, src, api.ErrTwice, append(three, three...), nil)
	wantRefused(t, src, api.ErrTwice, three, three)
	wantRefused(t, src, api.ErrAllowed, nil, facts("doc:1#owner@doc:1"))
}

// Example 4: an overlay over an overlay, and over nothing.
func TestExample4(t *testing.T) {
	under := laid(t, exampleSnap(t), facts("doc:1#viewer@user:cat"), facts("doc:2#owner@user:ann"))
	wantHas(t, laid(t, under, nil, facts("doc:1#viewer@user:cat")), "doc:1#owner@user:ann", "doc:1#viewer@user:bob")
	wantNoSource(t, nil)
	var none *store.Snap
	wantNoSource(t, none)
}
