package check_test

import (
	"fmt"
	"testing"

	"latchkey/api"
)

// P17.2: sets that are in one another in rings have what each of them has, and nothing but for a reason that ends.
func TestRingsOfSets(t *testing.T) {
	text := "type user type team relation member: [user, team#member] type doc relation viewer: [team#member]"
	src := snapOf(t, text, "team:a#member@team:b#member", "team:b#member@team:c#member", "team:c#member@team:a#member", "team:c#member@team:c#member", "doc:1#viewer@team:a#member", "team:d#member@team:d#member", "doc:2#viewer@team:d#member")
	wantOf(t, src, "user:ann", nil)
	ring := []string{"team:a member", "team:b member", "team:c member", "doc:1 viewer"}
	for _, s := range []string{"team:a#member", "team:b#member", "team:c#member"} {
		wantOf(t, src, s, nil, ring...)
	}
	wantOf(t, src, "team:d#member", nil, "team:d member", "doc:2 viewer")
	for _, id := range []string{"a", "b", "c"} {
		wantOf(t, laid(t, src, facts("team:"+id+"#member@user:ann"), nil), "user:ann", nil, ring...)
	}
	// A ring through two relations of two types.
	src = snapOf(t, "type user type team relation lead: [user, doc#viewer] type doc relation viewer: [team#lead]", "team:a#lead@doc:1#viewer", "doc:1#viewer@team:b#lead", "team:b#lead@doc:2#viewer", "doc:2#viewer@team:a#lead", "doc:3#viewer@team:c#lead")
	wantOf(t, src, "user:ann", nil)
	wantOf(t, src, "team:a#lead", nil, "doc:1 viewer", "doc:2 viewer", "team:a lead", "team:b lead")
	wantOf(t, src, "doc:3#viewer", nil, "doc:3 viewer")
}

// P17.2: rings through From.
func TestRingsOfWays(t *testing.T) {
	text := "type user type doc relation up: [doc] relation viewer: [user] or viewer from up relation both: viewer and (both from up) relation self: self from up"
	src := snapOf(t, text, "doc:1#up@doc:2", "doc:2#up@doc:3", "doc:3#up@doc:1", "doc:4#up@doc:4", "doc:5#up@doc:1", "doc:1#up@doc:6", "doc:2#viewer@user:ann", "doc:4#viewer@user:bob", "doc:6#viewer@user:cat")
	ring := []string{"doc:1 viewer", "doc:2 viewer", "doc:3 viewer", "doc:5 viewer"}
	wantOf(t, src, "user:ann", nil, ring...)
	wantOf(t, src, "user:bob", nil, "doc:4 viewer")
	wantOf(t, src, "user:cat", nil, append(ring, "doc:6 viewer")...)
	wantOf(t, src, "user:zoe", nil)
	wantOf(t, src, "doc:4#self", nil, "doc:4 self")
	wantOf(t, src, "doc:3#self", nil, "doc:1 self", "doc:2 self", "doc:3 self", "doc:5 self")
	// A set that has one leaf of the ring's and has it not by the other.
	wantOf(t, src, "doc:6#viewer", nil, append(ring, "doc:6 viewer")...)
	wantOf(t, src, "doc:6#both", nil, "doc:6 both")
}

// P17.2: rings through relations of the same object.
func TestRingsOfRelations(t *testing.T) {
	src := snapOf(t, "type user type doc relation a: [user] or b relation b: c relation c: a or [user] relation d: d relation e: e or f relation f: e and a",
		"doc:1#a@user:ann", "doc:2#c@user:ann")
	wantOf(t, src, "user:ann", nil, "doc:1 a", "doc:1 b", "doc:1 c", "doc:2 a", "doc:2 b", "doc:2 c")
	wantOf(t, src, "doc:1#b", nil, "doc:1 a", "doc:1 b", "doc:1 c")
	wantOf(t, src, "doc:1#d", nil, "doc:1 d")
	wantOf(t, src, "doc:1#e", nil, "doc:1 e")
	wantOf(t, src, "doc:1#f", nil, "doc:1 e", "doc:1 f")
}

// P17.2: rings through sets, From and relations at one time, and an and within.
func TestRingsOfAll(t *testing.T) {
	text := `type user
type team relation of: [doc] relation member: [user, team#member, doc#viewer] or viewer from of
type doc relation owner: [user] relation up: [team, doc] relation viewer: [team#member] or editor or member from up relation editor: owner or (viewer and editor from up)`
	src := snapOf(t, text, "team:a#of@doc:1", "doc:1#viewer@team:b#member", "team:b#member@doc:2#viewer", "doc:2#up@team:a", "doc:2#up@doc:1", "doc:3#owner@user:ann", "doc:1#up@doc:3", "team:c#of@doc:3", "doc:1#viewer@team:c#member")
	wantOf(t, src, "user:zoe", nil)
	all := []string{"doc:1 viewer", "doc:2 viewer", "team:a member", "team:b member", "team:c member"}
	wantOf(t, src, "user:ann", nil, append(all, "doc:3 owner", "doc:3 editor", "doc:3 viewer", "doc:1 editor", "doc:2 editor")...)
	wantOf(t, src, "team:c#member", nil, all...)
	wantOf(t, src, "team:b#member", nil, "doc:1 viewer", "doc:2 viewer", "team:a member", "team:b member")
	wantOf(t, src, "doc:2#viewer", nil, "doc:1 viewer", "doc:2 viewer", "team:a member", "team:b member")
}

// P17.2: a ring on a stratum above another one, and what it leans on taken away in between.
func TestRingAboveWhatIsTakenAway(t *testing.T) {
	text := `type user
type doc relation up: [doc] relation blocked: [user, user:*] or blocked from up relation viewer: ([user, user:*, doc#viewer] or viewer from up) not blocked relation open: [user:*] not viewer`
	var l []string
	for i := range 9 {
		l = append(l, fmt.Sprintf("doc:%d#up@doc:%d", (i+1)%9, i))
	}
	src := snapOf(t, text, append(l, "doc:3#viewer@user:ann", "doc:x#open@user:*", "doc:3#open@user:*")...)
	all := func(rel string) []string {
		var l []string
		for i := range 9 {
			l = append(l, fmt.Sprintf("doc:%d %s", i, rel))
		}
		return l
	}
	wantOf(t, src, "user:ann", nil, append(all("viewer"), "doc:x open")...)
	wantOf(t, src, "user:bob", nil, "doc:3 open", "doc:x open")
	// Who is blocked somewhere in the ring is blocked all over it.
	up := laid(t, src, facts("doc:7#blocked@user:ann"), nil)
	wantOf(t, up, "user:ann", nil, append(all("blocked"), "doc:3 open", "doc:x open")...)
	// Where the ring is open, what is behind the block isn't reached, but for what comes by a set.
	up = laid(t, src, facts("doc:7#blocked@user:*", "doc:x#viewer@doc:6#viewer"), facts("doc:0#up@doc:8"))
	wantOf(t, up, "user:ann", nil, "doc:3 viewer", "doc:4 viewer", "doc:5 viewer", "doc:6 viewer", "doc:7 blocked", "doc:8 blocked", "doc:x viewer")
}

// P17.2: a set has itself whatever its rewrite says, and what leans on it counts it in: for and against.
func TestSetHasItself(t *testing.T) {
	text := `type user
type doc relation up: [doc] relation any: [user:*, doc#any] relation none: any not any relation by: none relation set: [doc#none] relation far: none from up relation all: [doc#none, user:*] or any relation rest: all not none relation left: all not rest`
	src := snapOf(t, text, "doc:1#up@doc:2", "doc:3#set@doc:2#none", "doc:2#all@doc:2#none", "doc:4#all@doc:2#none", "doc:2#any@doc:1#any", "doc:2#all@user:*")
	wantOf(t, src, "doc:2#none", nil, "doc:2 none", "doc:2 by", "doc:3 set", "doc:1 far", "doc:2 all", "doc:4 all", "doc:4 rest", "doc:2 left")
	wantOf(t, src, "doc:9#none", nil, "doc:9 none", "doc:9 by")
	wantOf(t, src, "doc:1#any", nil, "doc:1 any", "doc:1 all", "doc:1 rest", "doc:2 any", "doc:2 all", "doc:2 rest")
	wantOf(t, src, "doc:2#rest", nil, "doc:2 rest")
	wantOf(t, src, "doc:2#up", nil, "doc:2 up")
	wantOf(t, src, "user:ann", nil, "doc:2 all", "doc:2 rest")
	// Only the set itself: not another one of the same object, nor the same one of another object.
	for _, s := range []string{"doc:2#by", "doc:2#set", "doc:2#far", "doc:2#left", "doc:5#none"} {
		if has(t, src, subject(s), nil, grant("doc:3 set")) || has(t, src, subject(s), nil, api.Grant{Object: api.Object{Type: "doc", Id: "2"}, Rel: "none"}) {
			t.Error(s)
		}
	}
}
