package check_test

import (
	"fmt"
	"strings"
	"testing"

	"latchkey/api"
)

// P17.2: what is taken away on a lower stratum, by each kind of leaf.
func TestTakenAway(t *testing.T) {
	types := `type user
type team relation member: [user, team#member]
type folder relation banned: [user, team#member]
type doc relation home: [folder] relation viewer: [user, user:*] relation banned: [user, user:*, team#member] relation owner: [user] relation reader: `
	l := []string{"doc:1#viewer@user:*", "doc:1#home@folder:f", "team:b#member@team:a#member", "team:a#member@user:ann"}
	for rewrite, ban := range map[string]string{
		"viewer not banned":                              "doc:1#banned@",
		"viewer not (banned from home)":                  "folder:f#banned@",
		"viewer not [user, user:*, team#member]":         "doc:1#reader@",
		"viewer not (viewer and banned)":                 "doc:1#banned@",
		"viewer not (banned or banned)":                  "doc:1#banned@",
		"viewer not (banned or (banned from home))":      "folder:f#banned@",
		"viewer not ([user, user:*] or banned)":          "doc:1#banned@",
		"(viewer not banned) not (banned from home)":     "folder:f#banned@",
		"(viewer not banned) and (viewer not [user])":    "doc:1#banned@",
		"viewer and ((viewer or viewer) not banned)":     "doc:1#banned@",
		"[user] or (viewer not banned)":                  "doc:1#banned@",
		"viewer not (viewer not (viewer not banned))":    "doc:1#banned@",
		"viewer not (banned and (viewer not home))":      "doc:1#banned@",
		"(viewer not (banned from home)) or [doc#owner]": "folder:f#banned@",
	} {
		src := snapOf(t, types+rewrite, l...)
		wantReads := func(name string, more []string, s string, want bool) {
			t.Helper()
			up := laid(t, src, facts(more...), nil)
			if got := has(t, up, subject(s), nil, grant("doc:1 reader")); got != want {
				t.Errorf("%s, %s: %s reads: %v", rewrite, name, s, got)
			}
		}
		wantReads("nobody banned", nil, "user:ann", true)
		wantReads("another banned", []string{ban + "user:bob"}, "user:ann", true)
		wantReads("another banned", []string{ban + "user:bob"}, "user:bob", false)
		wantReads("banned", []string{ban + "user:ann"}, "user:ann", false)
		wantReads("a set banned", []string{ban + "team:b#member"}, "user:ann", false)
		wantReads("a set banned", []string{ban + "team:b#member"}, "user:bob", true)
		wantReads("a set banned", []string{ban + "team:b#member", "team:b#member@user:bob"}, "user:bob", false)
		wantReads("another object banned", []string{strings.NewReplacer(":1", ":2", ":f", ":g").Replace(ban) + "user:ann"}, "user:ann", true)
		if !strings.HasPrefix(ban, "folder") {
			wantReads("all banned", []string{ban + "user:*"}, "user:ann", false)
		}
	}
}

// P17.2: one taken away of another, stratum by stratum, each with and without what stands between.
func TestManyStrata(t *testing.T) {
	src := snapOf(t, `type user
type doc relation all: [user:*] relation s0: [user] relation s1: all not s0 relation s2: all not s1 relation s3: (all or s2) not s2 relation r1: s1 relation r2: s2 or r1 relation s4: r2 not s3`,
		"doc:1#all@user:*", "doc:1#s0@user:ann", "doc:2#s0@user:ann")
	// Who has s0 has s2 of what all have, the others s1 and s3.
	wantOf(t, src, "user:ann", nil, "doc:1 all", "doc:1 s0", "doc:2 s0", "doc:1 s2", "doc:1 r2", "doc:1 s4")
	wantOf(t, src, "user:bob", nil, "doc:1 all", "doc:1 s1", "doc:1 r1", "doc:1 r2", "doc:1 s3")
	wantOf(t, src, "doc:1#s0", nil, "doc:1 s0")
	wantOf(t, src, "doc:1#all", nil, "doc:1 all", "doc:1 s1", "doc:1 s3", "doc:1 r1", "doc:1 r2")
	wantOf(t, src, "doc:1#s1", nil, "doc:1 s1", "doc:1 r1", "doc:1 r2", "doc:1 s4")
	wantOf(t, src, "doc:1#s3", nil, "doc:1 s3")
}

// P17.2: as many strata as a chain of relations makes; what one has goes from one to the next by turns.
func TestChainOfStrata(t *testing.T) {
	var b strings.Builder
	b.WriteString("type user type doc relation r0: [user] relation all: [user:*] ")
	for i := 1; i < 31; i++ {
		fmt.Fprintf(&b, "relation r%d: all not r%d ", i, i-1)
	}
	src := snapOf(t, b.String(), "doc:1#r0@user:ann", "doc:1#all@user:*")
	for s, first := range map[string]int{"user:ann": 0, "user:bob": 1} {
		want := []string{"doc:1 all"}
		for i := first; i < 31; i += 2 {
			want = append(want, fmt.Sprintf("doc:1 r%d", i))
		}
		wantOf(t, src, s, nil, want...)
	}
	// A set of the middle of the chain has itself, and takes itself away from what comes behind it.
	want := []string{"doc:1 r15"}
	wantOf(t, src, "doc:1#r15", nil, want...)
	src = snapOf(t, strings.Replace(b.String(), "[user:*]", "[user:*, doc#r0]", 1), "doc:1#all@doc:1#r0")
	want = []string{"doc:1 all"}
	for i := 0; i < 31; i += 2 {
		want = append(want, fmt.Sprintf("doc:1 r%d", i))
	}
	wantOf(t, src, "doc:1#r0", nil, want...)
}

// P17.2: what is taken away may itself come by long ways, and by rings, on its own stratum.
func TestTakenAwayByLongWays(t *testing.T) {
	src := snapOf(t, `type user
type team relation member: [user, team#member]
type doc relation up: [doc] relation banned: [team#member] or banned from up relation viewer: [user:*] or viewer from up relation reader: viewer not banned`,
		"team:1#member@user:ann", "team:2#member@team:1#member", "team:3#member@team:2#member", "team:1#member@team:3#member", "doc:a#banned@team:3#member", "doc:b#up@doc:a", "doc:c#up@doc:b", "doc:a#up@doc:c", "doc:d#up@doc:c", "doc:b#viewer@user:*", "doc:e#viewer@user:*", "doc:d#viewer@user:*")
	teams := []string{"team:1 member", "team:2 member", "team:3 member"}
	docs := []string{"doc:a viewer", "doc:b viewer", "doc:c viewer", "doc:d viewer", "doc:e viewer"}
	wantOf(t, src, "user:ann", nil, append(append(teams, docs...), "doc:a banned", "doc:b banned", "doc:c banned", "doc:d banned", "doc:e reader")...)
	wantOf(t, src, "user:bob", nil, append(docs, "doc:a reader", "doc:b reader", "doc:c reader", "doc:d reader", "doc:e reader")...)
}

// P17.2: a first kid that isn't there is none to be taken away from: nobody comes by a not alone.
func TestNothingToTakeFrom(t *testing.T) {
	src := snapOf(t, "type user type doc relation a: [user] relation b: [user] relation r: a not b relation s: (a not a) not b relation w: [doc] relation f: (r from w) not b", "doc:1#b@user:bob", "doc:2#a@user:ann", "doc:3#w@doc:1", "doc:4#w@doc:2")
	wantOf(t, src, "user:zoe", nil)
	wantOf(t, src, "user:bob", nil, "doc:1 b")
	wantOf(t, src, "user:ann", nil, "doc:2 a", "doc:2 r", "doc:4 f")
	wantOf(t, src, "doc:1#b", nil, "doc:1 b")
	wantOf(t, src, "doc:1#s", nil, "doc:1 s")
	wantOf(t, src, "doc:1#r", nil, "doc:1 r", "doc:3 f")
	if got := has(t, src, subject("doc:1#r"), nil, api.Grant{Object: api.Object{Type: "doc", Id: "1"}, Rel: "a"}); got {
		t.Error("what a set is made of")
	}
}
