package overlay_test

import (
	"fmt"
	"slices"
	"testing"

	"latchkey/api"
	"latchkey/store"
	"latchkey/tuples"
)

// owners are n tuples that rise, none of which the sources of these tests have.
func owners(n int) []api.Tuple {
	var l []api.Tuple
	for i := range n {
		l = append(l, fact(fmt.Sprintf("doc:o%03d#owner@user:u%d", i, i%7)))
	}
	return l
}

// put is a list of texts with another one laid in or taken away, as Compare rises.
func put(l []string, s string) []string {
	l = cut(l, s)
	i, _ := slices.BinarySearchFunc(l, fact(s), func(a string, b api.Tuple) int { return tuples.Compare(fact(a), b) })
	return slices.Insert(l, i, s)
}

func cut(l []string, s string) []string {
	x := fact(s)
	return slices.DeleteFunc(slices.Clone(l), func(y string) bool { return tuples.Compare(fact(y), x) == 0 })
}

// P13.2: ordinary overlays: what is laid comes in its place everywhere: ahead of all, behind all, between, in the midst of an object's relation and of a subject's.
func TestMore(t *testing.T) {
	src := mixedSnap(t)
	all := mixed()
	for _, s := range []string{
		"doc:0#owner@user:ann", "doc:1#owner@user:anna", "doc:1#owner@user:zoe", "doc:1#viewer@team:a#member with d", "doc:1#viewer@user:bob with c{at: 1}", "doc:1.5#viewer@user:*", "doc:10#owner@user:ann", "doc:2#viewer@team:x#member with d", "doc:3#owner@user:ann", "team:x#member@team:x#member", "team:x#member@user:* with c", "team:y#member@team:*", "team:z#member@user:zoe",
	} {
		o := laid(t, src, facts(s), nil)
		wantHas(t, o, put(mixed(), s)...)
		all = put(all, s)
	}
	if len(all) != len(mixed())+13 {
		t.Fatalf("%d", len(all))
	}
	var more []string
	for _, s := range all {
		if !slices.Contains(mixed(), s) {
			more = append([]string{s}, more...)
		}
	}
	wantHas(t, laid(t, src, facts(more...), nil), all...)
	wantHas(t, laid(t, newest(t, stored(t, model(t, wideText))), facts(more...), nil), rising(more)...)
}

// rising are texts as Compare rises.
func rising(l []string) []string {
	var all []string
	for _, s := range l {
		all = put(all, s)
	}
	return all
}

// P13.2: what is laid stands in the place of the tuple of its key, though it differ in Cond or Args alone.
func TestMoreInThePlaceOf(t *testing.T) {
	src := mixedSnap(t)
	for _, s := range append(mixed(),
		"doc:1#viewer@user:ann with d", "doc:1#viewer@user:ann with c", "doc:1#viewer@user:ann with c{at: 4}", "doc:1#viewer@user:ann with c{at: 5, l: [\"b\", \"a\"]}", "doc:1#viewer@user:ann with c{at: 4, l: [\"b\", \"a\", \"\"]}", "doc:1#viewer@team:x#member with d", "doc:1#viewer@team:x#member with d{x: -0.0}", "doc:10#viewer@team:x#member with d{x: nan}", "doc:10#viewer@user:ann with c", "team:y#member@user:* with c{l: []}",
	) {
		o := laid(t, src, facts(s), nil)
		wantHas(t, o, put(mixed(), s)...)
		if o.Len() != len(mixed()) {
			t.Errorf("%s: %d", s, o.Len())
		}
	}
}

// P13.2: what is taken away is nowhere, whatever Cond and Args; what isn't there may be taken away too.
func TestLess(t *testing.T) {
	src := mixedSnap(t)
	for _, s := range mixed() {
		for _, cond := range []string{"", "c", "none"} {
			x := fact(s)
			x.Cond, x.Args = cond, []api.Arg{arg("at", 77)}
			wantHas(t, laid(t, src, nil, []api.Tuple{x}), cut(mixed(), s)...)
		}
	}
	for _, s := range []string{"doc:1#owner@user:an", "doc:1#owner@user:anna", "doc:1#viewer@team:y#member", "doc:1.5#viewer@user:ann", "doc:0#owner@user:ann", "doc:2#viewer@user:*", "team:z#member@team:*", "team:x#member@team:x#member"} {
		wantHas(t, laid(t, src, nil, facts(s)), mixed()...)
	}
	wantHas(t, laid(t, src, nil, facts(mixed()...)))
	wantHas(t, laid(t, newest(t, stored(t, model(t, wideText))), nil, facts(mixed()...)))
	for i := range mixed() {
		wantHas(t, laid(t, src, nil, facts(slices.Delete(mixed(), i, i+1)...)), mixed()[i])
	}
}

// P13.2: more and less at one time, next to one another, there and not.
func TestMoreAndLess(t *testing.T) {
	src := mixedSnap(t)
	for i, s := range mixed() {
		for k, less := range mixed() {
			if i == k {
				continue
			}
			wantHas(t, laid(t, src, facts(s, "doc:1#owner@user:axe"), facts(less, "doc:1#owner@user:zoe")), put(cut(mixed(), less), "doc:1#owner@user:axe")...)
		}
	}
}

// P13.3: an overlay of nothing more and nothing less has the source's tuples.
func TestNothingLaid(t *testing.T) {
	for _, src := range []store.Source{mixedSnap(t), newest(t, stored(t, model(t, wideText))), laid(t, mixedSnap(t), nil, facts(mixed()[3:5]...))} {
		was := wholeOf(src)
		wantWhole(t, laid(t, src, nil, nil), was)
		wantWhole(t, laid(t, src, []api.Tuple{}, []api.Tuple{}), was)
		wantWhole(t, laid(t, laid(t, src, nil, nil), nil, nil), was)
	}
}

// P13.2: any object, text and subject may be asked for, and is held against a tuple's field by field.
func TestWhatIsntThere(t *testing.T) {
	o := laid(t, mixedSnap(t), facts("doc:1#owner@user:zoe", "team:x#member@team:x#member"), facts("doc:2#owner@user:ann", "team:y#member@user:*"))
	for _, x := range []api.Object{object("", ""), object("doc", ""), object("", "1"), object("do", "c1"), object("doc", "0"), object("doc", "2"), object("doc", "11"), object("zzz", "\xff"), object("user", "ann"), object("doc", "*")} {
		for _, rel := range []string{"", "owner", "viewer", "any", "own", "owners", "\xff"} {
			wantTuples(t, fmt.Sprintf("Of(%q, %q)", x, rel), o.Of(x, rel))
		}
	}
	for _, rel := range []string{"", "any", "own", "owners", "viewers", "member", "\xff"} {
		wantTuples(t, rel, o.Of(object("doc", "1"), rel))
	}
	for _, s := range []api.Subject{{}, subject("user", "", ""), subject("", "zoe", ""), subject("user", "zoe", "owner"), subject("user", "zo", ""), subject("user", "zoey", ""), subject("team", "x", ""), subject("team", "", "member"), subject("", "x", "member"), subject("team", "x", "membe"), subject("team", "*", "member"), subject("a", "a", "a"), subject("\xff", "\xff", "\xff")} {
		wantTuples(t, fmt.Sprintf("By(%q)", s), o.By(s))
	}
	// A set, all of its type and its object are three subjects.
	wantTuples(t, "the set", o.By(subject("team", "x", "member")), "doc:1#viewer@team:x#member with d{x: 0.75}", "doc:10#viewer@team:x#member with d", "team:x#member@team:x#member", "team:y#member@team:x#member")
	wantTuples(t, "all", o.By(subject("team", "*", "")), "team:x#member@team:*")
	wantTuples(t, "all users", o.By(subject("user", "*", "")), "doc:1#viewer@user:*")
}

// P13.2: By goes by the object ahead of the relation, Of and All by Compare.
func TestOrders(t *testing.T) {
	src := snapOf(t, "type a relation r: [u] relation q: [u] relation z: [u, u:*] type b relation q: [u] type u", "b:1#q@u:x", "a:2#q@u:x", "a:1#z@u:x", "a:1#r@u:x", "a:1#q@u:y", "a:1#z@u:*")
	o := laid(t, src, facts("a:2#r@u:x", "a:10#q@u:x", "a:1#q@u:x", "b:0#q@u:x", "b:2#q@u:x", "a:1#r@u:a"), facts("a:1#z@u:x"))
	wantTuples(t, "By", o.By(subject("u", "x", "")), "a:1#q@u:x", "a:1#r@u:x", "a:10#q@u:x", "a:2#q@u:x", "a:2#r@u:x", "b:0#q@u:x", "b:1#q@u:x", "b:2#q@u:x")
	wantTuples(t, "Of", o.Of(object("a", "1"), "r"), "a:1#r@u:a", "a:1#r@u:x")
	wantTuples(t, "All", o.All(), "a:1#q@u:x", "a:1#q@u:y", "a:1#r@u:a", "a:1#r@u:x", "a:1#z@u:*", "a:10#q@u:x", "a:2#q@u:x", "a:2#r@u:x", "b:0#q@u:x", "b:1#q@u:x", "b:2#q@u:x")
	if !slices.IsSortedFunc(slices.Collect(o.All()), tuples.Compare) || !slices.IsSortedFunc(slices.Collect(o.By(subject("u", "x", ""))), tuples.Backward) {
		t.Error("they don't rise")
	}
}

// P13.2: the model is that of what it was laid over, and all fits it.
func TestModel(t *testing.T) {
	src := mixedSnap(t)
	want := wholeModel(src)
	o := laid(t, src, facts("doc:3#owner@user:ann", "doc:1#viewer@user:ann with d{x: 1.0}"), facts("doc:1#owner@user:bob"))
	for range 5 {
		if wholeModel(o) != want {
			t.Errorf("%s, want %s", wholeModel(o), want)
		}
		for x := range o.All() {
			if e := tuples.Check(o.Model(), x); e != api.OK {
				t.Errorf("%s: %d", textOf(x), e)
			}
		}
		o = laid(t, o, nil, nil)
	}
}

func wholeModel(src store.Source) string {
	m := src.Model()
	return fmt.Sprintf("%+v %v %v %d %d", m.Schema(), m.Places(), m.Arcs(), m.Size(), m.Number("doc", "any"))
}
