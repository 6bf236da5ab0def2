package holds_test

import (
	"slices"
	"testing"

	"latchkey/api"
)

// Example 1.
func TestExampleOrdinary(t *testing.T) {
	src := example(t)
	wantOf(t, src, "user:ann", nil, "doc:1 reader", "doc:1 viewer", "doc:2 banned", "doc:2 viewer", "folder:f viewer", "team:a member", "team:b member")
	l := layers(t, src, subject("user:ann"), nil)
	if len(l) != 2 || len(l[0]) != 6 || !slices.Equal(grantTexts(l[1]), []string{"doc:1 reader"}) {
		t.Errorf("%v", l)
	}
}

// Example 2.
func TestExampleArguments(t *testing.T) {
	src := example(t)
	bob := []string{"doc:2 reader", "doc:2 viewer", "doc:3 owner", "doc:3 reader", "doc:3 viewer"}
	wantOf(t, src, "user:bob", nil, bob...)
	wantOf(t, src, "user:bob", with("at: 9"), append(bob, "doc:2 owner")...)
	wantOf(t, src, "user:bob", with("at: 8"), bob...)
}

// Example 3.
func TestExampleOthers(t *testing.T) {
	src := example(t)
	wantOf(t, src, "team:a#member", nil, "doc:1 reader", "doc:1 viewer", "folder:f viewer", "team:a member", "team:b member")
	wantOf(t, src, "team:c#member", nil, "team:c member")
	wantOf(t, src, "user:zoe", nil, "doc:2 reader", "doc:2 viewer")
}

// Example 4.
func TestExampleRefusals(t *testing.T) {
	src := example(t)
	for _, s := range []string{"user:*", "bot:1", "team:a#owner", "user:ann#member"} {
		wantRefused(t, src, subject(s), nil, api.ErrSubject)
	}
	query := func(typ, id, rel string) api.Query {
		return api.Query{Object: api.Object{Type: typ, Id: id}, Rel: rel, Subject: subject("user:ann")}
	}
	if has(t, src, subject("user:ann"), nil, grant("doc:9 reader")) {
		t.Error("ann reads doc:9")
	}
	wantNoHas(t, src, query("file", "1", "reader"), api.ErrType)
	wantNoHas(t, src, query("doc", "*", "reader"), api.ErrId)
	wantNoHas(t, src, query("doc", "1", "writer"), api.ErrRelation)
}

// Examples 3 and 6 of the whole (DOC.md), and what these tuples say beside.
func TestExamplesOfTheWhole(t *testing.T) {
	src := snapOf(t, `type user
type team
  relation member: [user, team#member]
type doc
  relation parent: [doc]
  relation owner: [user]
  relation blocked: [user]
  relation viewer: ([user, user:*, team#member, user with hours] or owner or viewer from parent) not blocked
cond hours(now: int): now >= 9 and now < 17`,
		"team:a#member@user:ann", "team:b#member@team:a#member", "team:a#member@team:b#member", "doc:1#viewer@team:b#member", "doc:2#parent@doc:1", "doc:2#blocked@user:ann", "doc:3#parent@doc:2", "doc:4#viewer@user:*", "doc:5#viewer@user:bob with hours")
	wantOf(t, src, "user:ann", nil, "team:a member", "team:b member", "doc:1 viewer", "doc:2 blocked", "doc:4 viewer")
	wantOf(t, src, "user:bob", nil, "doc:4 viewer")
	wantOf(t, src, "user:bob", with("now: 10"), "doc:4 viewer", "doc:5 viewer")
	for _, args := range []string{"now: 17", "now: 10.0", "now: 8"} {
		wantOf(t, src, "user:bob", with(args), "doc:4 viewer")
	}
	wantOf(t, src, "team:a#member", nil, "team:a member", "team:b member", "doc:1 viewer", "doc:2 viewer", "doc:3 viewer")
	wantOf(t, src, "doc:1", nil, "doc:2 parent")
	wantOf(t, src, "doc:3#viewer", nil, "doc:3 viewer")
	wantOf(t, src, "doc:1#viewer", nil, "doc:1 viewer", "doc:2 viewer", "doc:3 viewer")
	wantOf(t, src, "doc:2#blocked", nil, "doc:2 blocked")
}
