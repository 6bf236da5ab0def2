package store_test

import (
	"testing"

	"latchkey/api"
	"latchkey/schema"
)

// P12.3: models that all tuples fit are taken, with the tuples as they are.
func TestChange(t *testing.T) {
	const all = "doc:1#viewer@user:*"
	s := roomy(t, plainText, o, all, w)
	for i, text := range []string{
		plainText,
		"type more " + plainText,
		// Other rewrites, another order, another condition of the same parameters: what fits fits still.
		"cond c(by: text, at: int): at < 3 type doc relation viewer: owner or [user with c, user:*] relation owner: [user, user:*] type user relation self: [user]",
		"type user type doc relation owner: [user] relation viewer: [user:*, user with c] not owner cond c(): true",
	} {
		m := model(t, text)
		rev := int64(2 + i)
		wantChange(t, s, m, rev)
		wantAt(t, s, rev, o, all, w)
		if got := snapOf(t, s, rev).Model().Schema(); schemaText(got) != schemaText(m.Schema()) {
			t.Errorf("the model of %s is that of %s", text, schemaText(got))
		}
		c, e := s.Commit(rev)
		if e != api.OK || c.Rev != rev || c.Kind != api.CommitSchema || len(c.Changes) != 0 || schemaText(c.Schema) != schemaText(m.Schema()) {
			t.Errorf("Commit(%d): %+v, %d", rev, c, e)
		}
	}
	if got := snapOf(t, s, 1).Model().Schema(); schemaText(got) != schemaText(model(t, plainText).Schema()) {
		t.Errorf("the model of 1 is that of %s", schemaText(got))
	}
}

// P12.3: a model that one tuple doesn't fit is refused, whichever that is and whatever the reason.
func TestChangeBreaks(t *testing.T) {
	s := roomy(t, wideText, o, "doc:2#viewer@user:ann with c{at: 4}", "doc:3#viewer@team:x#member with d{x: 1.0}", "team:x#member@user:ann", "team:y#member@team:*")
	const c, d = " cond c(at: int): true", " cond d(x: real): true"
	const team = "type user type team relation member: [user, team:*, team#member] "
	const doc = "type doc relation owner: [user] relation viewer: [user with c, team#member with d]"
	wantChange(t, s, model(t, team+doc+c+d), 2)
	for _, text := range []string{
		"type user",
		"type user type team relation member: [user] " + doc + c + d,                                          // team:* isn't allowed
		team + "type doc relation owner: [user:*] relation viewer: [user with c, team#member with d]" + c + d, // no one owner
		team + "type doc relation viewer: [user with c, team#member with d]" + c + d,                          // no owner
		team + "type doc relation owner: [user] relation viewer: [user, team#member with d]" + c + d,          // no condition
		team + "type doc relation owner: [user] relation viewer: [user with d, team#member with d]" + d,       // another condition
		team + "type doc relation owner: [user] relation viewer: [user with c, team with d]" + c + d,          // no sets
		team + doc + " cond c(by: int): true" + d,                                                             // another parameter
		team + doc + " cond c(at: real): true" + d,                                                            // of another kind
		team + doc + c + " cond d(x: int): true",                                                              // that of the other one
		"type team relation member: [team, team:*, team#member] type user relation x: [user] " + doc + c + d,  // no user in a team
		"type user type team relation members: [user, team:*, team#members] type doc relation owner: [user]",  // another name
		"type users type team relation member: [users, team:*, team#member] type doc relation owner: [users]", // another type
		team, // no doc
	} {
		wantNoChange(t, s, model(t, text), api.ErrBreaks)
	}
	// When what it breaks is gone, it is taken.
	wantWrite(t, s, 3, out(o))
	wantChange(t, s, model(t, team+"type doc relation viewer: [user with c, team#member with d]"+c+d), 4)
	// Any model is taken where there are no tuples.
	empty := made(t, wideText, api.Limits{Tuples: 1, Keep: 5}, 0)
	none, fault := schema.Of(api.Schema{})
	if fault.Err != api.OK {
		t.Fatal(fault)
	}
	wantChange(t, empty, none, 1)
	wantRefused(t, empty, api.ErrType, ins(o))
	if c, e := empty.Commit(1); c.Kind != api.CommitSchema || e != api.OK {
		t.Errorf("%+v, %d", c, e)
	}
	wantChange(t, empty, model(t, plainText), 2)
	wantWrite(t, empty, 3, in(o))
}

// P12.3: whether tuples fit is asked of the newest revision alone.
func TestChangeAsksTheNewest(t *testing.T) {
	s := roomy(t, plainText, o, v)
	narrow := model(t, "type user type doc relation owner: [user]")
	old := snapOf(t, s, 1)
	wantNoChange(t, s, narrow, api.ErrBreaks)
	wantWrite(t, s, 2, out(v))
	wantChange(t, s, narrow, 3)
	wantTuples(t, "the snapshot of 1", old.All(), o, v)
	wantAt(t, s, 1, o, v)
	wantAt(t, s, 3, o)
}

// P12.3, P12.4: a change of the model counts as a revision: it lets the oldest go, and comes to the end.
func TestChangeIsKept(t *testing.T) {
	s := made(t, plainText, api.Limits{Tuples: 5, Keep: 2}, 0)
	m := model(t, plainText)
	wantChange(t, s, m, 1)
	wantKept(t, s, 0, 1)
	wantChange(t, s, m, 2)
	wantKept(t, s, 1, 2)
	wantNoSnap(t, s, 0, api.ErrGone)
}
