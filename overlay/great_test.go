package overlay_test

import (
	"fmt"
	"testing"

	"latchkey/api"
	"latchkey/store"
)

// many are as many tuples as a store may have, most of them of one object and relation.
func many() []api.Tuple {
	l := make([]api.Tuple, api.MaxTuples)
	for i := range l {
		l[i] = api.Tuple{Object: object("doc", "big"), Rel: "owner", Subject: subject("user", fmt.Sprintf("%05d", i), "")}
		if i%8 == 0 {
			l[i].Object.Id = "small"
		}
	}
	return l
}

// P13.2: over the greatest source, with the most that may be laid: what is told is one more and one less where they are.
func TestMostTuples(t *testing.T) {
	src := newest(t, stored(t, model(t, plainText), many()...))
	var more, less []api.Tuple
	for i := range 32 {
		more = append(more, api.Tuple{Object: object("doc", "big"), Rel: "owner", Subject: subject("user", fmt.Sprintf("%05d", i*2000), "")})
		less = append(less, api.Tuple{Object: object("doc", "big"), Rel: "owner", Subject: subject("user", fmt.Sprintf("%05d", i*2000+1), "")})
	}
	o := laid(t, src, more, less)
	count := func(src store.Source, id string) int {
		n := 0
		for range src.Of(object("doc", id), "owner") {
			n++
		}
		return n
	}
	// More's are of numbers that the small one has; less's are there.
	if o.Len() != api.MaxTuples || count(o, "big") != 57344 || count(o, "small") != 8192 {
		t.Errorf("%d, %d, %d", o.Len(), count(o, "big"), count(o, "small"))
	}
	n := 0
	for range o.All() {
		n++
	}
	if n != o.Len() {
		t.Errorf("%d", n)
	}
	wantTuples(t, "By", o.By(subject("user", "02000", "")), "doc:big#owner@user:02000", "doc:small#owner@user:02000")
	wantTuples(t, "By", o.By(subject("user", "02001", "")))
	// An overlay may have more tuples than a store.
	if up := laid(t, src, owners(64), nil); up.Len() != api.MaxTuples+64 {
		t.Errorf("%d", up.Len())
	}
}

// Any argument: a great many overlays, one over the other, end in an answer.
func TestDeep(t *testing.T) {
	snap := exampleSnap(t)
	var src store.Source = snap
	for i := range 300 {
		src = laid(t, src, facts(fmt.Sprintf("doc:d#owner@user:u%d", i%3)), nil)
	}
	for range 20000 {
		src = laid(t, src, nil, nil)
	}
	wantHas(t, src, "doc:1#owner@user:ann", "doc:1#viewer@user:bob", "doc:2#owner@user:ann", "doc:d#owner@user:u0", "doc:d#owner@user:u1", "doc:d#owner@user:u2")
}

// Any argument: long texts and great lists end in an answer.
func TestLongArguments(t *testing.T) {
	src := exampleSnap(t)
	long := string(make([]byte, 1<<20))
	x := fact("doc:1#viewer@user:bob with office")
	x.Args = make([]api.Arg, 100000)
	wantRefused(t, src, api.ErrArgs, []api.Tuple{x}, nil)
	wantHas(t, laid(t, src, nil, []api.Tuple{x}), "doc:1#owner@user:ann", "doc:2#owner@user:ann")
	x.Cond = long
	wantHas(t, laid(t, src, nil, []api.Tuple{x}), "doc:1#owner@user:ann", "doc:2#owner@user:ann")
	x.Subject.Id = long
	wantRefused(t, src, api.ErrSubject, nil, []api.Tuple{x})
	x.Object.Id = long
	wantRefused(t, src, api.ErrId, nil, []api.Tuple{x})
	x.Object.Type = long
	wantRefused(t, src, api.ErrType, []api.Tuple{x}, nil)
	o := laid(t, src, nil, nil)
	wantTuples(t, "Of", o.Of(x.Object, long))
	wantTuples(t, "By", o.By(subject(long, long, long)))
}
