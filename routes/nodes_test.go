package routes_test

import "testing"

// P19.1: a this makes an edge for each thing that it allows.
func TestThis(t *testing.T) {
	head := "type user type bot type team relation member: [user] relation lead: [user] type d relation r: "
	wantEdgesTo(t, head+"[user]", "d.r", "direct user exact")
	wantEdgesTo(t, head+"[user:*]", "d.r", "direct user all exact")
	wantEdgesTo(t, head+"[team#member]", "d.r", "set team.member exact")
	wantEdgesTo(t, head+"[team#member, bot:*, user, team#lead, bot, team, d#r]", "d.r", "direct bot exact", "direct bot all exact", "direct team exact", "direct user exact", "set d.r exact", "set team.lead exact", "set team.member exact")
}

// P19.1: conditions aren't looked at; what differs in All is two.
func TestConditions(t *testing.T) {
	head := condsText + " type user type team relation member: [user] type d relation r: "
	wantEdgesTo(t, head+"[user with c]", "d.r", "direct user exact")
	wantEdgesTo(t, head+"[user with c, user, user with d]", "d.r", "direct user exact")
	wantEdgesTo(t, head+"[user:* with e, user:*]", "d.r", "direct user all exact")
	wantEdgesTo(t, head+"[team#member with c, team#member with d]", "d.r", "set team.member exact")
	wantEdgesTo(t, head+"[user:* with c, user with c, user:*, user]", "d.r", "direct user exact", "direct user all exact")
	wantEdgesTo(t, head+"[team with e, team#member with e]", "d.r", "direct team exact", "set team.member exact")
	// Of a way, too.
	wantEdgesTo(t, condsText+" type user type d relation w: [d with c, d, user] relation p: [user] relation r: p from w", "d.r", "from d.p way w exact")
	wantEdgesTo(t, condsText+" type user type d relation w: [d with c, d, user] relation p: [user] relation r: p from w", "d.w", "direct d exact", "direct user exact")
}

// P19.1: a relation of the same type, and its own.
func TestSame(t *testing.T) {
	wantEdgesTo(t, "type user type d relation p: [user] relation r: p", "d.r", "same d.p exact")
	wantEdgesTo(t, "type user type d relation r: r", "d.r", "same d.r exact")
	wantEdgesTo(t, "type user type d relation p: [user] relation q: [user] relation r: q or p or [user] or r", "d.r", "direct user exact", "same d.p exact", "same d.q exact", "same d.r exact")
}

// P19.1: a way makes an edge for each type that it leads to and that has the relation.
func TestFrom(t *testing.T) {
	head := "type user type a relation p: [user] type b relation q: [user] type c relation p: [user] relation q: [user] type d relation w: [c, user, b, a, d] relation v: [a] relation p: [user] "
	wantEdgesTo(t, head+"relation r: p from w", "d.r", "from a.p way w exact", "from c.p way w exact", "from d.p way w exact")
	wantEdgesTo(t, head+"relation r: q from w", "d.r", "from b.q way w exact", "from c.q way w exact")
	wantEdgesTo(t, head+"relation r: q from w or p from w", "d.r", "from a.p way w exact", "from b.q way w exact", "from c.p way w exact", "from c.q way w exact", "from d.p way w exact")
	wantEdgesTo(t, head+"relation r: p from w or p from v", "d.r", "from a.p way v exact", "from a.p way w exact", "from c.p way w exact", "from d.p way w exact")
	wantEdgesTo(t, head+"relation u: [c] relation r: p from u or p from v", "d.r", "from a.p way v exact", "from c.p way u exact")
	wantEdgesTo(t, head+"relation r: r from w", "d.r", "from d.r way w exact")
	wantEdgesTo(t, head+"relation r: w from w", "d.r", "from d.w way w exact")
	wantEdgesTo(t, head+"relation r: p from w", "d.w", "direct a exact", "direct b exact", "direct c exact", "direct d exact", "direct user exact")
}

// nodesHead has relations of which a rewrite can be made.
const nodesHead = "type user type d relation a: [user] relation b: [user] relation c: [user] relation e: [user] relation f: [user] relation w: [d] relation r: "

// P19.1: only what nothing but an or stands above gives at once.
func TestExact(t *testing.T) {
	wantEdgesTo(t, nodesHead+"a or b", "d.r", "same d.a exact", "same d.b exact")
	wantEdgesTo(t, nodesHead+"a and b", "d.r", "same d.a", "same d.b")
	wantEdgesTo(t, nodesHead+"a not b", "d.r", "same d.a")
	wantEdgesTo(t, nodesHead+"(a or (b or c)) or e", "d.r", "same d.a exact", "same d.b exact", "same d.c exact", "same d.e exact")
	wantEdgesTo(t, nodesHead+"(a and b) or c", "d.r", "same d.a", "same d.b", "same d.c exact")
	wantEdgesTo(t, nodesHead+"(a or b) and (c or (e or f))", "d.r", "same d.a", "same d.b", "same d.c", "same d.e", "same d.f")
	wantEdgesTo(t, nodesHead+"a or ((b or c) and e) or f", "d.r", "same d.a exact", "same d.b", "same d.c", "same d.e", "same d.f exact")
	wantEdgesTo(t, nodesHead+"([user] and b) or a from w", "d.r", "direct user", "same d.b", "from d.a way w exact")
	wantEdgesTo(t, nodesHead+"([user, user:*, d#a] or b) not c", "d.r", "direct user", "direct user all", "set d.a", "same d.b")
	wantEdgesTo(t, nodesHead+"(a from w and b from w) or c from w", "d.r", "from d.a way w", "from d.b way w", "from d.c way w exact")
}

// P19.1: what stands anywhere within what is taken away makes no edge, of no kind.
func TestTaken(t *testing.T) {
	wantEdgesTo(t, nodesHead+"a not (b or (c and e))", "d.r", "same d.a")
	wantEdgesTo(t, nodesHead+"a not [user, user:*, d#b]", "d.r", "same d.a")
	wantEdgesTo(t, nodesHead+"a not (b from w or a)", "d.r", "same d.a")
	// In another one's first kid, and in its second.
	wantEdgesTo(t, nodesHead+"(a not b) not c", "d.r", "same d.a")
	wantEdgesTo(t, nodesHead+"a not (b not c)", "d.r", "same d.a")
	wantEdgesTo(t, nodesHead+"(a not (b not c)) not (e not f)", "d.r", "same d.a")
	wantEdgesTo(t, nodesHead+"((a or b) not (c not (e not f))) or f", "d.r", "same d.a", "same d.b", "same d.f exact")
	// Behind what is taken away it goes on as it was.
	wantEdgesTo(t, nodesHead+"(a not b) or c", "d.r", "same d.a", "same d.c exact")
	wantEdgesTo(t, nodesHead+"(a not b) and c", "d.r", "same d.a", "same d.c")
	wantEdgesTo(t, nodesHead+"((a not (b or c)) or e) not f", "d.r", "same d.a", "same d.e")
}

// P19.1: an edge that several nodes make is one, and exact if one of them gives at once; what is taken away has no say in it.
func TestSeveralNodesMakeOne(t *testing.T) {
	wantEdgesTo(t, nodesHead+"a or a", "d.r", "same d.a exact")
	wantEdgesTo(t, nodesHead+"a and a", "d.r", "same d.a")
	wantEdgesTo(t, nodesHead+"(a and b) or a", "d.r", "same d.a exact", "same d.b")
	wantEdgesTo(t, nodesHead+"a or (a and b)", "d.r", "same d.a exact", "same d.b")
	wantEdgesTo(t, nodesHead+"a or (a not b) or (a and b)", "d.r", "same d.a exact", "same d.b")
	wantEdgesTo(t, nodesHead+"(b not a) or a", "d.r", "same d.a exact", "same d.b")
	wantEdgesTo(t, nodesHead+"a or (b not a)", "d.r", "same d.a exact", "same d.b")
	wantEdgesTo(t, nodesHead+"a not a", "d.r", "same d.a")
	wantEdgesTo(t, nodesHead+"(b not a) and a", "d.r", "same d.a", "same d.b")
	wantEdgesTo(t, nodesHead+"(a from w not b) or a from w or (a from w and b)", "d.r", "same d.b", "from d.a way w exact")
	// What would be the same but for its kind, or for where it comes from, is another one.
	wantEdgesTo(t, nodesHead+"([d#a, d] and a) or a from w or b", "d.r", "direct d", "set d.a", "same d.a", "same d.b exact", "from d.a way w exact")
}

// P19.1: rings of places.
func TestRings(t *testing.T) {
	text := "type g relation m: [g#m, g#k] relation k: m type f relation up: [f, g] relation m: [g#m] or m from up or k relation k: m and m from up"
	wantEdges(t, text,
		"f.k: same f.m",
		"f.k: from f.m way up",
		"f.k: from g.m way up",
		"f.m: set g.m exact",
		"f.m: same f.k exact",
		"f.m: from f.m way up exact",
		"f.m: from g.m way up exact",
		"f.up: direct f exact",
		"f.up: direct g exact",
		"g.k: same g.m exact",
		"g.m: set g.k exact",
		"g.m: set g.m exact")
	m := model(t, text)
	wantCould(t, m, "g:1#k", "f.k", "f.m", "g.k", "g.m")
	wantCould(t, m, "g:1#m", "f.k", "f.m", "g.k", "g.m")
	wantCould(t, m, "f:1#k", "f.k", "f.m")
	wantCould(t, m, "f:1", "f.up")
	for _, p := range []string{"g.m", "g.k", "f.m", "f.k"} {
		wantWho(t, m, p)
	}
	wantWho(t, m, "f.up", "f", "g")
}

// P19.1: places rise byte by byte, whatever the order in the schema; edges by To, Kind, From, Way, All.
func TestRising(t *testing.T) {
	wantEdges(t, "type z relation b: [z#ab, z#a, aa#z, aa#a, z:*, z, a, aa:*, aa] relation a: b relation ab: a type aa relation z: [a] relation a: [a:*] type a relation a: [aa] relation a_: a relation a1: a",
		"a.a: direct aa exact",
		"a.a1: same a.a exact",
		"a.a_: same a.a exact",
		"aa.a: direct a all exact",
		"aa.z: direct a exact",
		"z.a: same z.b exact",
		"z.ab: same z.a exact",
		"z.b: direct a exact",
		"z.b: direct aa exact",
		"z.b: direct aa all exact",
		"z.b: direct z exact",
		"z.b: direct z all exact",
		"z.b: set aa.a exact",
		"z.b: set aa.z exact",
		"z.b: set z.a exact",
		"z.b: set z.ab exact")
}

// P19.1: edges that differ in their ways alone rise by these, whatever the order in which the rewrite has them.
func TestWaysRise(t *testing.T) {
	wantEdgesTo(t, "type a relation v: [a] relation w: [a] relation ab: [a] relation a_b: [a] relation b: [a] relation a: [a] relation w2: [a] relation r: r from w or r from a or r from ab or r from w2 or r from v or r from b or r from a_b", "a.r",
		"from a.r way a exact",
		"from a.r way a_b exact",
		"from a.r way ab exact",
		"from a.r way b exact",
		"from a.r way v exact",
		"from a.r way w exact",
		"from a.r way w2 exact")
}

// P19.1: a model may have nothing that makes edges.
func TestNoEdges(t *testing.T) {
	wantEdges(t, "")
	wantEdges(t, "type user type team")
}
