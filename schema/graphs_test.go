package schema_test

import (
	"slices"
	"testing"

	"latchkey/api"
)

// P9.4: a node that is taken away makes Neg arcs, however many NodeNots stand around it, and in whichever kid these stand.
func TestTakenAway(t *testing.T) {
	given := "type t relation a: [t] relation b: [t] relation c: [t] relation d: [t] relation r: "
	for rewrite, want := range map[string]string{
		"a not b":                        "4>0 4!1",
		"a not (b not c)":                "4>0 4!1 4!2",
		"a not (b not (c not d))":        "4>0 4!1 4!2 4!3",
		"(a not b) not c":                "4>0 4!1 4!2",
		"((a not b) not c) not d":        "4>0 4!1 4!2 4!3",
		"(a not (b not c)) or d":         "4>0 4!1 4!2 4>3",
		"a not (b or (c and d))":         "4>0 4!1 4!2 4!3",
		"(a or b) not (c and d)":         "4>0 4>1 4!2 4!3",
		"((a and b) not c) and d":        "4>0 4>1 4!2 4>3",
		"(a not b) or c or (d not a)":    "4>0 4!0 4!1 4>2 4>3",
		"(a not b) and (b not a)":        "4>0 4!0 4>1 4!1",
		"a or a or (a and a)":            "4>0",
		"d not (a or a or (a not a))":    "4!0 4>3",
		"(a not b) not (c not (d or b))": "4>0 4!1 4!2 4!3",
		"a or b or c or d":               "4>0 4>1 4>2 4>3",
		"d and b":                        "4>1 4>3",
		"[t#d, t, t#b, t:*]":             "4>1 4>3",
		"[t]":                            "",
		"a not [t#b]":                    "4>0 4!1",
		"a not (b not [t, t#c, t#d])":    "4>0 4!1 4!2 4!3",
		"a not (b from c)":               "4>0 4!1 4!2",
		"(b from c) not (b from d)":      "4>1 4!1 4>2 4!3",
		"[t#r] or r":                     "4>4",
		"(r or r from a) not b":          "4>0 4!1 4>4",
	} {
		levels := "0 0 0 0 0"
		for _, a := range arcs(want) {
			if a.Neg {
				levels = "0 0 0 0 1"
			}
		}
		wantGraph(t, given+rewrite, want, levels)
	}
}

// P9.4: a NodeFrom leads to the way, and to the other relation of each type that the way allows and that has it.
func TestFromSeveralTypes(t *testing.T) {
	types := "type a relation p: [a] relation w: [b, d, a, c with k] relation r: p from w type b relation q: [a] type c relation q: [a] relation p: [a] type d relation p: [d] type e relation p: [a] cond k(): true"
	// The places: a p 0, a w 1, a r 2, b q 3, c q 4, c p 5, d p 6, e p 7; b has no p, and w doesn't allow e.
	wantGraph(t, types, "2>0 2>1 2>5 2>6", "0 0 0 0 0 0 0 0")
	// The same type by several allowances makes one arc; what is allowed stands behind the place, and leads back to it.
	wantGraph(t, "type a relation r: [a] or r from w relation w: [a, a with k, b with k, b] type b relation r: [a#r] cond k(): true", "0>0 0>1 0>2 2>0", "0 0 0")
	// A way of its own type leads to itself by no arc but where it is asked for.
	wantGraph(t, "type a relation w: [a] relation r: w from w", "1>0", "0 0")
	wantGraph(t, "type a relation w: [a] relation v: [a] relation r: w from v or v from w", "2>0 2>1", "0 0 0")
}

// P9.4: rings that are taken, and the strata above and below them.
func TestRingsTaken(t *testing.T) {
	wantGraph(t, "type a relation r: r", "0>0", "0")
	wantGraph(t, "type a relation r: [a#r]", "0>0", "0")
	wantGraph(t, "type a relation p: [a#q] relation q: [a#s] relation s: p", "0>1 1>2 2>0", "0 0 0")
	wantGraph(t, "type a relation p: q or [a] relation q: p not s relation s: [a]", "0>1 1>0 1!2", "1 1 0")
	wantGraph(t, "type a relation z: [a] relation p: q relation q: p not r relation r: s relation s: r not z relation t: p not s", "1>2 2>1 2!3 3>4 4!0 4>3 5>1 5!4", "0 2 2 1 1 2")
	wantGraph(t, "type a relation a: [a] not b relation b: [a] not c relation c: [a] not d relation d: [a]", "0!1 1!2 2!3", "3 2 1 0")
	// The longer chain counts, whether its arcs are Neg or not.
	wantGraph(t, "type a relation a: b not d relation b: c relation c: [a] not d relation d: [a]", "0>1 0!3 1>2 2!3", "1 1 1 0")
	wantGraph(t, "type a relation a: d not b relation b: c relation c: [a] not d relation d: [a]", "0!1 0>3 1>2 2!3", "2 1 1 0")
}

// P9.2 to P9.4: schemas that have nothing, and types that have nothing.
func TestNothing(t *testing.T) {
	for _, s := range []api.Schema{{}, {Types: []api.Type{}, Conds: []api.Cond{}}, read(t, "type a type b"), read(t, "cond c(): true"), read(t, "type a cond c(): true type b")} {
		m := taken(t, s)
		if len(m.Places()) != 0 || m.Size() != 0 || len(m.Schema().Types) != len(s.Types) || len(m.Schema().Conds) != len(s.Conds) {
			t.Errorf("%s: %v, %d, %s", show(s), m.Places(), m.Size(), show(m.Schema()))
		}
		wantArcs(t, m, nil)
		wantLevels(t, m, nil)
		if m.Number("a", "") != -1 || m.Number("", "") != -1 || m.Number("a", "a") != -1 || len(m.Rewrite(0)) != 0 || len(m.Allows(0)) != 0 {
			t.Errorf("%s: a place", show(s))
		}
	}
	m := model(t, "type a type b relation r: [a] type c type d relation r: [a] relation q: r type e")
	if got := m.Places(); !slices.Equal(got, []api.Place{{Type: "b", Rel: "r"}, {Type: "d", Rel: "r"}, {Type: "d", Rel: "q"}}) {
		t.Error(got)
	}
	wantArcs(t, m, arcs("2>1"))
}

// P9.2, P9.3: allowances that differ in one field alone are kept, all of them, as they stand.
func TestAllowancesAlike(t *testing.T) {
	text := "type b relation r: [b] relation s: r type a relation x: [a] relation r: x or [b, a, b:*, b#s, b#r, b with d, b with c, b:* with c, b#r with c, b#r with d, a with c] relation s: r not x relation t: [a] relation v: [b] relation n: x or (r not ([a with d, a] or t)) cond c(): true cond d(): true"
	m := model(t, text)
	s := read(t, text)
	want := []api.Allow{{Type: "b"}, {Type: "a"}, {Type: "b", All: true}, {Type: "b", Rel: "s"}, {Type: "b", Rel: "r"}, {Type: "b", Cond: "d"}, {Type: "b", Cond: "c"}, {Type: "b", All: true, Cond: "c"}, {Type: "b", Rel: "r", Cond: "c"}, {Type: "b", Rel: "r", Cond: "d"}, {Type: "a", Cond: "c"}}
	for n, allows := range map[int][]api.Allow{-1: nil, 0: {{Type: "b"}}, 1: nil, 2: {{Type: "a"}}, 3: want, 4: nil, 7: {{Type: "a", Cond: "d"}, {Type: "a"}}, 8: nil, -1 << 63: nil, 1<<63 - 1: nil} {
		if got := m.Allows(n); !slices.Equal(got, allows) {
			t.Errorf("Allows(%d): %v, not %v", n, got, allows)
		}
	}
	for n, l := range map[int][]api.Node{-1: nil, 0: s.Types[0].Relations[0].Rewrite, 3: s.Types[1].Relations[1].Rewrite, 7: s.Types[1].Relations[5].Rewrite, 8: nil, -1 << 63: nil, 1<<63 - 1: nil} {
		if got := m.Rewrite(n); !sameRewrite(got, l) {
			t.Errorf("Rewrite(%d): %v, not %v", n, got, l)
		}
	}
	wantModel(t, s)
}

// P9.3: names that are no places, and conditions with all that they have.
func TestNames(t *testing.T) {
	text := `type user type doc relation doc: [user] relation is_it: doc cond doc(n: int, l: texts): n > 1 and "a" in ["a", "b"] and ["c"] == l cond user(): true`
	m := model(t, text)
	for p, want := range map[api.Place]int{
		{Type: "doc", Rel: "doc"}: 0, {Type: "doc", Rel: "is_it"}: 1,
		{Type: "user", Rel: "doc"}: -1, {Type: "doc", Rel: "user"}: -1, {Type: "doc"}: -1, {Rel: "doc"}: -1, {}: -1, {Type: "user"}: -1, {Type: "doc", Rel: "is"}: -1,
		{Type: "doc", Rel: "is_it "}: -1, {Type: "Doc", Rel: "doc"}: -1, {Type: "or", Rel: "\xff"}: -1, {Type: "docdoc"}: -1, {Type: "doc", Rel: "docdoc"}: -1,
	} {
		if got := m.Number(p.Type, p.Rel); got != want {
			t.Errorf("Number(%q, %q) = %d, not %d", p.Type, p.Rel, got, want)
		}
	}
	for i, c := range read(t, text).Conds {
		if got, ok := m.Cond(c.Name); !ok || !sameCond(got, c) {
			t.Errorf("Cond %d: %v, %v", i, got, ok)
		}
	}
	for _, s := range []string{"", "is_it", "n", "Doc", "doc ", "\x00"} {
		if got, ok := m.Cond(s); ok || !sameCond(got, api.Cond{}) {
			t.Errorf("Cond(%q): %v, %v", s, got, ok)
		}
	}
	wantModel(t, read(t, text))
}
