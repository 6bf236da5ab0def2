package routes_test

import (
	"testing"

	"latchkey/api"
)

// P19.3: one comes by each of its type's EdgeDirects, whatever it is called, and by whatever leads on from there.
func TestCouldOfOnes(t *testing.T) {
	m := model(t, `type user
type bot
type team
  relation member: [user]
  relation all: [bot:*] or member
type d
  relation up: [d, team]
  relation lead: [team#member]
  relation r: all from up
  relation s: r and lead
  relation x: [d] not s`)
	for _, id := range []string{"1", "*x"[1:], "-", "A.b=c|~"} {
		wantCould(t, m, "user:"+id, "d.lead", "d.r", "d.s", "team.all", "team.member")
		wantCould(t, m, "bot:"+id, "d.r", "d.s", "team.all")
		wantCould(t, m, "team:"+id, "d.up")
		wantCould(t, m, "d:"+id, "d.up", "d.x")
	}
}

// P19.3: a set comes to its own place, even where that is no more than this, and on from there; no further than by what leads from a relation.
func TestCouldOfSets(t *testing.T) {
	m := model(t, `type user
type team
  relation member: [user]
  relation lead: [user]
  relation boss: lead
type d
  relation up: [d]
  relation r: [team#member, team]
  relation s: r or s from up
  relation x: [user] not s`)
	wantCould(t, m, "team:a#member", "d.r", "d.s", "team.member")
	wantCould(t, m, "team:a#lead", "team.boss", "team.lead")
	wantCould(t, m, "team:a#boss", "team.boss")
	wantCould(t, m, "team:a", "d.r", "d.s")
	wantCould(t, m, "d:1#up", "d.up")
	wantCould(t, m, "d:1#r", "d.r", "d.s")
	wantCould(t, m, "d:1#s", "d.s")
	wantCould(t, m, "d:1#x", "d.x")
	wantCould(t, m, "d:1", "d.up")
}

// P19.3, P19.4: a type that nothing leads on, and one that comes nowhere but to places by which nobody gets on.
func TestCouldOfNowhere(t *testing.T) {
	m := model(t, "type lone type user type d relation a: [user] relation b: [lone:*] relation c: a not [lone]")
	wantCould(t, m, "d:1")
	wantCould(t, m, "lone:1", "d.b")
	wantCould(t, m, "user:1", "d.a", "d.c")
	wantWho(t, m, "d.c", "user")
	bare := model(t, "type user")
	wantCould(t, bare, "user:1")
}

// P19.3: a place to which only what is taken away leads isn't reached by that; what is cut is.
func TestCouldByNodes(t *testing.T) {
	m := model(t, "type user type bot type d relation a: [user] relation b: [bot] relation c: a and b relation e: a not b relation f: (b not a) or c")
	wantCould(t, m, "user:1", "d.a", "d.c", "d.e", "d.f")
	wantCould(t, m, "bot:1", "d.b", "d.c", "d.f")
	wantWho(t, m, "d.c", "bot", "user")
	wantWho(t, m, "d.e", "user")
	wantWho(t, m, "d.f", "bot", "user")
}

// P19.4: types rise byte by byte, whatever their order in the schema, each once however many ways it has; none is told, where none comes.
func TestWhoRises(t *testing.T) {
	m := model(t, `type z
type b
type ab
  relation m: [z, z:*, b, ab#m]
type a
  relation n: a
  relation a: n
type d
  relation w: [a, d, ab]
  relation r: [a, ab#m, b, a:*] or r from w or m from w`)
	wantWho(t, m, "d.r", "a", "b", "z")
	wantWho(t, m, "ab.m", "b", "z")
	wantWho(t, m, "d.w", "a", "ab", "d")
	wantWho(t, m, "a.n")
	wantWho(t, m, "a.a")
	// A type with as many places as may be called as others are.
	m = model(t, "type t relation t: [t] relation a: [t] or t from t type a relation t: [a, t#t]")
	wantWho(t, m, "t.t", "t")
	wantWho(t, m, "t.a", "t")
	wantWho(t, m, "a.t", "a", "t")
	if l := could(t, m, api.Subject{Type: "t", Id: "t", Rel: "t"}); len(l) != 3 {
		t.Errorf("%q", placeTexts(l))
	}
}
