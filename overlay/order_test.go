package overlay_test

import (
	"testing"

	"latchkey/api"
	"latchkey/overlay"
	"latchkey/store"
)

// wrong is a tuple that is refused by itself with that error.
type wrong struct {
	want api.Errno
	x    api.Tuple
}

func badId() api.Tuple {
	x := fact("doc:1#owner@user:ann")
	x.Object.Id = "*"
	return x
}

// wrongMore are tuples that may not be laid, in the order of the chapter's table, each for that reason alone or with all that come behind it.
func wrongMore() []wrong {
	many := fact("doc:5#viewer@user:ann with c")
	many.Args = make([]api.Arg, 17)
	fallen := fact("doc:5#viewer@user:ann with c")
	fallen.Args = []api.Arg{arg("by", 1), arg("at", 1)}
	bare := fact("doc:5#owner@user:ann")
	bare.Args = []api.Arg{arg("at", 1)}
	return append(wrongKeys(), []wrong{
		{api.ErrAllowed, fact("doc:5#viewer@user:ann")},
		{api.ErrAllowed, fact("doc:5#viewer@user:ann with none")},
		{api.ErrAllowed, fact("doc:5#owner@user:ann with c{at: true}")},
		{api.ErrAllowed, fact("team:x#member@user:*")},
		{api.ErrArgs, many},
		{api.ErrArgs, fallen},
		{api.ErrArgs, bare},
		{api.ErrParam, fact("doc:5#viewer@user:ann with c{at: 1, by: true}")},
		{api.ErrParam, fact("doc:5#viewer@user:ann with c{x: 0.5}")},
		{api.ErrKind, fact("doc:5#viewer@user:ann with c{at: 1.0}")},
		{api.ErrKind, fact("doc:5#viewer@user:ann with d{x: 1}")},
	}...)
}

// wrongKeys are tuples that may be neither laid nor taken away.
func wrongKeys() []wrong {
	none := fact("doc:1#owner@user:ann")
	none.Subject = api.Subject{}
	allOfSet := fact("doc:1#viewer@team:x#member with d")
	allOfSet.Subject.Id = "*"
	noId := badId()
	noId.Object.Id = ""
	unrelated := badId()
	unrelated.Rel = "reader"
	untyped := badId()
	untyped.Object.Type = "file"
	stranger := fact("doc:1#reader@bot:1")
	return []wrong{
		{api.ErrType, api.Tuple{}},
		{api.ErrType, fact("file:1#owner@user:ann")},
		{api.ErrType, untyped},
		{api.ErrId, badId()},
		{api.ErrId, noId},
		{api.ErrId, unrelated},
		{api.ErrRelation, fact("doc:1#reader@user:ann")},
		{api.ErrRelation, fact("doc:1#member@user:ann")},
		{api.ErrRelation, fact("user:1#owner@user:ann")},
		{api.ErrRelation, stranger},
		{api.ErrSubject, none},
		{api.ErrSubject, allOfSet},
		{api.ErrSubject, fact("doc:1#owner@bot:1")},
		{api.ErrSubject, fact("doc:1#owner@bot:*")},
		{api.ErrSubject, fact("doc:1#owner@team:x#owner")},
		{api.ErrSubject, fact("doc:1#owner@user:x#member")},
		{api.ErrAllowed, fact("doc:1#owner@user:*")},
		{api.ErrAllowed, fact("doc:1#owner@team:x#member")},
		{api.ErrAllowed, fact("doc:1#viewer@team:x with d")},
		{api.ErrAllowed, fact("doc:1#viewer@team:* with d")},
		{api.ErrAllowed, fact("doc:1#viewer@doc:1#owner with d")},
		{api.ErrAllowed, fact("doc:1#any@user:ann")},
		{api.ErrAllowed, fact("team:x#member@team:y")},
		{api.ErrAllowed, fact("team:x#member@doc:y")},
	}
}

// P13.1: each reason why one of more or of less may not be, whatever source it is laid over.
func TestWrongAlone(t *testing.T) {
	snap := mixedSnap(t)
	for _, src := range []store.Source{snap, laid(t, snap, facts("doc:7#owner@user:ann"), facts(mixed()[0])), newest(t, stored(t, model(t, wideText)))} {
		for _, w := range wrongMore() {
			wantRefused(t, src, w.want, []api.Tuple{w.x}, nil)
			wantRefused(t, src, w.want, append(facts("doc:8#owner@user:ann"), w.x), facts("doc:9#owner@user:ann"))
		}
		for _, w := range wrongKeys() {
			for _, cond := range []string{"", "c", "d", "none", "\xff"} {
				w.x.Cond = cond
				wantRefused(t, src, w.want, nil, []api.Tuple{w.x})
			}
			wantRefused(t, src, w.want, facts("doc:8#owner@user:ann"), append(facts("doc:9#owner@user:ann"), w.x))
		}
	}
}

// P13.1: of less nothing is asked but the key: what may not be laid for its Cond or its Args may be taken away.
func TestLessAsksForTheKeyAlone(t *testing.T) {
	src := mixedSnap(t)
	taken := 0
	for _, w := range wrongMore()[len(wrongKeys()):] {
		laid(t, src, nil, []api.Tuple{w.x})
		taken++
	}
	if taken != 11 {
		t.Errorf("%d", taken)
	}
	for _, s := range []string{"doc:1#viewer@user:ann", "doc:1#viewer@user:*", "doc:1#viewer@team:x#member", "team:x#member@user:*", "team:x#member@team:*", "doc:1#owner@user:bob"} {
		for _, cond := range []string{"", "c", "d", "none", "\xff"} {
			x := fact(s)
			x.Cond, x.Args = cond, []api.Arg{arg("z", 1), {}, arg("a", 1)}
			laid(t, src, nil, []api.Tuple{x})
		}
	}
}

// P13.1: what is wrong with a tuple by itself is told ahead of its key being there twice.
func TestOrderWithinATuple(t *testing.T) {
	src := mixedSnap(t)
	first := facts("doc:5#viewer@user:ann with c")
	for _, w := range wrongMore() {
		wantRefused(t, src, w.want, append(first, w.x), nil)
	}
	wantRefused(t, src, api.ErrTwice, append(first, fact("doc:5#viewer@user:ann with d")), nil)
	wantRefused(t, src, api.ErrTwice, append(first, fact(`doc:5#viewer@user:ann with c{l: ["a"]}`)), nil)
	wantRefused(t, src, api.ErrTwice, first, facts("doc:5#viewer@user:ann"))
	wantRefused(t, src, api.ErrTwice, nil, append(first, fact("doc:5#viewer@user:ann with none")))
}

// P13.1: of two tuples of more, or of less, the first one's reason; and more's ahead of less's.
func TestOrderOfTwo(t *testing.T) {
	src := mixedSnap(t)
	right := fact("doc:7#owner@user:ann")
	pair := func(a, b api.Tuple) []api.Tuple { return []api.Tuple{a, b} }
	for _, a := range wrongMore() {
		for _, b := range wrongMore() {
			wantRefused(t, src, a.want, pair(a.x, b.x), nil)
		}
		for _, b := range wrongKeys() {
			wantRefused(t, src, a.want, pair(right, a.x), pair(b.x, right))
		}
		// Keys that are there twice, ahead of it and behind it.
		wantRefused(t, src, api.ErrTwice, []api.Tuple{right, right, a.x}, nil)
		wantRefused(t, src, a.want, []api.Tuple{right, a.x, right}, nil)
		wantRefused(t, src, a.want, []api.Tuple{right, a.x}, pair(right, right))
	}
	for _, a := range wrongKeys() {
		for _, b := range wrongKeys() {
			wantRefused(t, src, a.want, nil, pair(a.x, b.x))
		}
		wantRefused(t, src, api.ErrTwice, pair(right, right), []api.Tuple{a.x})
		wantRefused(t, src, api.ErrTwice, nil, []api.Tuple{right, right, a.x})
		wantRefused(t, src, a.want, nil, []api.Tuple{right, a.x, right})
		wantRefused(t, src, api.ErrTwice, []api.Tuple{right}, []api.Tuple{right, a.x})
		wantRefused(t, src, a.want, []api.Tuple{right}, []api.Tuple{a.x, right})
	}
}

// P13.1: the same key twice is told wherever the two stand, there or not; keys that differ in one field alone are two.
func TestTwice(t *testing.T) {
	src := mixedSnap(t)
	for _, s := range append(mixed(), "doc:8#owner@user:zoe") {
		x, other := fact(s), fact("doc:8#viewer@user:bob with c")
		wantRefused(t, src, api.ErrTwice, []api.Tuple{x, x}, nil)
		wantRefused(t, src, api.ErrTwice, []api.Tuple{x, other, x}, nil)
		wantRefused(t, src, api.ErrTwice, nil, []api.Tuple{x, x})
		wantRefused(t, src, api.ErrTwice, nil, []api.Tuple{x, other, x})
		wantRefused(t, src, api.ErrTwice, []api.Tuple{x}, []api.Tuple{x})
		wantRefused(t, src, api.ErrTwice, []api.Tuple{other, x}, []api.Tuple{fact("doc:9#owner@user:ann"), x})
	}
	near := facts("team:x#member@user:ann", "team:y#member@user:ann", "team:x#member@user:bob", "team:x#member@team:x#member", "team:x#member@team:*", "doc:x#owner@user:ann", "doc:x#viewer@user:ann with c")
	laid(t, src, near, nil)
	laid(t, src, nil, near)
	laid(t, src, near[:3], near[3:])
}

// P13.1, Limits: 64 of more and less together may be laid, of 65: ErrLong, ahead of all that is wrong with them.
func TestHowMany(t *testing.T) {
	src := exampleSnap(t)
	l := owners(65)
	for n := range 65 {
		o := laid(t, src, l[:n], l[n:64])
		if o.Len() != 3+n {
			t.Errorf("%d more: %d", n, o.Len())
		}
	}
	wrong := make([]api.Tuple, 65)
	for n := range 66 {
		wantRefused(t, src, api.ErrLong, l[:n], l[n:])
		wantRefused(t, src, api.ErrLong, wrong[:n], wrong[n:])
	}
	wantRefused(t, src, api.ErrLong, make([]api.Tuple, 100000), make([]api.Tuple, 100000))
	wantRefused(t, src, api.ErrType, wrong[:64], nil)
	wantRefused(t, src, api.ErrType, nil, wrong[:64])
	wantRefused(t, src, api.ErrType, wrong[:32], wrong[:32])
	wantRefused(t, src, api.ErrTwice, l[:32], l[31:63])
	if api.MaxMore != 64 {
		t.Error("the limit")
	}
	// The limit is of one overlay: over it another may be laid.
	if _, e := overlay.Over(laid(t, src, l[:64], nil), l[64:], l[:63]); e != api.OK {
		t.Errorf("%d", e)
	}
}
