package check_test

import (
	"testing"

	"latchkey/api"
	"latchkey/check"
)

// Example 1.
func TestExampleOnes(t *testing.T) {
	src := example(t)
	wantOf(t, src, "user:ann", nil, "team:a member", "team:b member", "doc:1 viewer", "doc:2 blocked", "doc:4 viewer")
	wantOf(t, src, "user:bob", nil, "doc:4 viewer")
}

// Example 2.
func TestExampleSets(t *testing.T) {
	src := example(t)
	wantOf(t, src, "team:a#member", nil, "team:a member", "team:b member", "doc:1 viewer", "doc:2 viewer", "doc:3 viewer")
	wantOf(t, src, "team:c#member", nil, "team:c member")
}

// Example 3.
func TestExampleRefusals(t *testing.T) {
	src := example(t)
	refused := func(typ, id, rel string, s api.Subject, budget int, want api.Errno) {
		t.Helper()
		wantRefused(t, src, api.Query{Object: api.Object{Type: typ, Id: id}, Rel: rel, Subject: s, Budget: budget}, want)
	}
	ann := subject("user:ann")
	refused("doc", "*", "viewer", ann, 1000, api.ErrId)
	refused("file", "1", "viewer", ann, 1000, api.ErrType)
	refused("doc", "1", "reader", ann, 1000, api.ErrRelation)
	for _, s := range []string{"user:*", "bot:1", "user:ann#member"} {
		refused("doc", "1", "viewer", subject(s), 1000, api.ErrSubject)
		refused("doc", "*", "viewer", subject(s), 1000, api.ErrId)
	}
	refused("doc", "1", "viewer", ann, 0, api.ErrArg)
}

// Example 4.
func TestExampleBounds(t *testing.T) {
	for _, x := range []struct{ got, want int }{
		{check.Bound(0, 0), 1024}, {check.Bound(1, 2), 27648}, {check.ListBound(0, 0), 2048}, {check.Bound(-1, 5), 0}, {check.Bound(65536, 65536), 1 << 62},
	} {
		if x.got != x.want {
			t.Errorf("%d, want %d", x.got, x.want)
		}
	}
}

// Examples 3 and 6 of the whole (DOC.md).
func TestExamplesOfTheWhole(t *testing.T) {
	src := snapOf(t, `type user
type team
  relation member: [user, team#member]
type doc
  relation parent: [doc]
  relation owner: [user]
  relation blocked: [user]
  relation viewer: ([user, user:*, team#member, user with hours] or owner or viewer from parent) not blocked
cond hours(now: int): now >= 9 and now < 17`, append(exampleFacts(), "doc:5#viewer@user:bob with hours")...)
	wantOf(t, src, "user:ann", nil, "team:a member", "team:b member", "doc:1 viewer", "doc:2 blocked", "doc:4 viewer")
	wantOf(t, src, "user:bob", nil, "doc:4 viewer")
	wantOf(t, src, "user:bob", with("now: 10"), "doc:4 viewer", "doc:5 viewer")
	for _, args := range []string{"now: 17", "now: 10.0", "now: 8"} {
		wantOf(t, src, "user:bob", with(args), "doc:4 viewer")
	}
	wantOf(t, src, "team:a#member", nil, "team:a member", "team:b member", "doc:1 viewer", "doc:2 viewer", "doc:3 viewer")
	wantOf(t, src, "doc:1", nil, "doc:2 parent")
	wantOf(t, src, "doc:2#viewer", nil, "doc:2 viewer", "doc:3 viewer")
	wantOf(t, src, "doc:2#blocked", nil, "doc:2 blocked")
}
