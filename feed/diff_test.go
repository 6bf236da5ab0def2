package feed_test

import (
	"math"
	"testing"

	"latchkey/api"
	"latchkey/feed"
	"latchkey/store"
)

// snapWith is a snapshot of a store of its own.
func snapWith(t *testing.T, text string, l ...string) *store.Snap {
	t.Helper()
	s := newStore(t, text, roomy(), 3)
	for _, x := range l {
		write(t, s, touch(x))
	}
	return snapOf(t, s, s.Newest())
}

// P15.1: a key in one, in the other, in both, the same and not; keys rise, and each is told once.
func TestDiff(t *testing.T) {
	none := snapWith(t, wideText)
	one := snapWith(t, wideText, "doc:2#owner@user:ann", "doc:1#viewer@user:ann with c{at: 4}", "doc:3#owner@user:ann")
	two := snapWith(t, wideText, "doc:2#owner@user:ann", "doc:1#viewer@user:ann with c{at: 5}", "doc:1#owner@user:ann", "team:x#member@team:*")
	wantDiff(t, none, none)
	wantDiff(t, none, one, in("doc:1#viewer@user:ann with c{at: 4}"), in("doc:2#owner@user:ann"), in("doc:3#owner@user:ann"))
	wantDiff(t, one, none, out("doc:1#viewer@user:ann"), out("doc:2#owner@user:ann"), out("doc:3#owner@user:ann"))
	wantDiff(t, one, two, in("doc:1#owner@user:ann"), touch("doc:1#viewer@user:ann with c{at: 5}"), out("doc:3#owner@user:ann"), in("team:x#member@team:*"))
	wantDiff(t, two, one, out("doc:1#owner@user:ann"), touch("doc:1#viewer@user:ann with c{at: 4}"), in("doc:3#owner@user:ann"), out("team:x#member@team:*"))
	wantDiff(t, one, one)
	wantDiff(t, two, two)
	// Another snapshot of another store with the same tuples.
	wantDiff(t, one, snapWith(t, wideText, "doc:3#owner@user:ann", "doc:2#owner@user:ann", "doc:1#viewer@user:ann with c{at: 4}"))
}

// P15.1: keys at the beginning, between and at the end, of which the other one has none, one or several.
func TestDiffNeighbours(t *testing.T) {
	keys := []string{"doc:1#owner@user:a", "doc:1#owner@user:b", "doc:1#owner@user:c", "doc:2#owner@user:a"}
	var snaps []*store.Snap
	for set := range 16 {
		var l []string
		for i, k := range keys {
			if set>>i&1 == 1 {
				l = append(l, k)
			}
		}
		snaps = append(snaps, snapWith(t, wideText, l...))
	}
	for i, a := range snaps {
		for k, b := range snaps {
			wantPlainDiff(t, a, b)
			if n := len(diff(t, a, b)); (n == 0) != (i == k) {
				t.Errorf("%d and %d: %d changes", i, k, n)
			}
		}
	}
}

// P15.1: two tuples of one key are unlike, if their Conds or their Args are, in whatever.
func TestDiffUnlike(t *testing.T) {
	rows := []string{
		"doc:1#viewer@user:ann", "doc:1#viewer@user:ann with c", "doc:1#viewer@user:ann with d",
		"doc:1#viewer@user:ann with c{at: 1}", "doc:1#viewer@user:ann with c{at: 2}", "doc:1#viewer@user:ann with c{at: -1}",
		"doc:1#viewer@user:ann with c{l: []}", `doc:1#viewer@user:ann with c{l: ["a"]}`, `doc:1#viewer@user:ann with c{l: ["a", "b"]}`, `doc:1#viewer@user:ann with c{l: ["b", "a"]}`,
		"doc:1#viewer@user:ann with c{at: 1, l: []}",
		"doc:1#viewer@user:ann with d{x: 0.0}", "doc:1#viewer@user:ann with d{x: -0.0}", "doc:1#viewer@user:ann with d{x: nan}", "doc:1#viewer@user:ann with d{x: inf}",
	}
	for _, x := range rows {
		for _, y := range rows {
			a, b := snapWith(t, wideText, x), snapWith(t, wideText, y)
			if x == y {
				wantDiff(t, a, b)
			} else {
				wantDiff(t, a, b, touch(y))
			}
		}
	}
}

// P15.1: all that are no numbers are the same (tuples.Same), whatever their bits.
func TestDiffNoNumbers(t *testing.T) {
	of := func(bits uint32) *store.Snap {
		s := newStore(t, wideText, roomy(), 0)
		x := fact("doc:1#viewer@user:ann with d")
		x.Args = []api.Arg{{Name: "x", Value: api.Value{Kind: api.ValReal, Real: math.Float32frombits(bits)}}}
		write(t, s, api.Change{Kind: api.ChangeInsert, Tuple: x})
		return snapOf(t, s, 1)
	}
	if l := diff(t, of(0x7fc00000), of(0xffc00001)); len(l) != 0 {
		t.Errorf("%s", wholeChanges(l))
	}
	if l := diff(t, of(0x7fc00000), of(0x7f800000)); len(l) != 1 {
		t.Errorf("%s", wholeChanges(l))
	}
}

// P15.1: the models aren't looked at, neither where they are unlike nor whether one's tuples fit the other.
func TestDiffOfModels(t *testing.T) {
	const other = "type bot type file relation owner: [bot] cond c(at: text): at == \"x\""
	a, b := snapWith(t, plainText, o, w), snapWith(t, other, "file:1#owner@bot:x")
	wantDiff(t, a, b, out(o), out(v), in("file:1#owner@bot:x"))
	wantDiff(t, b, a, in(o), in(w), out("file:1#owner@bot:x"))
	s := newStore(t, plainText, roomy(), 0)
	write(t, s, in(o))
	change(t, s, wideText)
	wantDiff(t, snapOf(t, s, 1), snapOf(t, s, 2))
	wantDiff(t, snapOf(t, s, 0), snapOf(t, s, 2), in(o))
	wantDiff(t, snapWith(t, "type a"), snapWith(t, "type b"))
}

// P15.1: snapshots of one store, in whatever order and however far from one another, gone or not.
func TestDiffOfRevisions(t *testing.T) {
	s := newStore(t, wideText, api.Limits{Tuples: 100, Keep: 3}, 0)
	snaps := []*store.Snap{snapOf(t, s, 0)}
	for i, l := range [][]api.Change{
		{in(o), in(w)}, {touch(v)}, {}, {out(o), in(o2)}, {touch(w), in("team:x#member@team:x#member")}, {out(v)}, {touch("team:x#member@team:x#member")}, {in(o), out(o2)},
	} {
		write(t, s, l...)
		snaps = append(snaps, snapOf(t, s, int64(i+1)))
	}
	for _, a := range snaps {
		for _, b := range snaps {
			wantPlainDiff(t, a, b)
		}
	}
	wantDiff(t, snaps[0], snaps[8], in(o), in("team:x#member@team:x#member"))
}

// P15.1: of no snapshot.
func TestDiffOfNone(t *testing.T) {
	a := snapWith(t, plainText, o)
	for _, x := range [][2]*store.Snap{{nil, a}, {a, nil}, {nil, nil}, {&store.Snap{}, a}, {a, &store.Snap{}}} {
		if l, e := feed.Diff(x[0], x[1]); len(l) != 0 || e != api.ErrNil {
			t.Errorf("%s, %d", wholeChanges(l), e)
		}
	}
}

// wantMade writes a Diff to a store with a's tuples, change by change of at most so many, and asks for b's.
func wantMade(t *testing.T, s *store.Store, b *store.Snap, most int) {
	t.Helper()
	l := diff(t, snapOf(t, s, s.Newest()), b)
	for len(l) > 0 {
		n := min(most, len(l))
		write(t, s, l[:n]...)
		l = l[n:]
	}
	if was, now := wholeSnap(b), wholeSnap(snapOf(t, s, s.Newest())); was != now {
		t.Errorf("%s\nbut\n%s", show(was), show(now))
	}
}

// P15.7: what Diff tells, written to a store that has a's tuples, makes b's.
func TestDiffMakes(t *testing.T) {
	r := seeded(5)
	s := newStore(t, wideText, roomy(), 0)
	for range 60 {
		other := newStore(t, wideText, roomy(), 0)
		for range r.Intn(12) {
			other.Write(randomChanges(r), nil)
		}
		b := snapOf(t, other, other.Newest())
		wantPlainDiff(t, snapOf(t, s, s.Newest()), b)
		wantMade(t, s, b, 1+r.Intn(5))
	}
}
