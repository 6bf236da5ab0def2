package store_test

import (
	"testing"

	"latchkey/api"
)

// P12.2: inserts, deletes and touches of keys that are there and that aren't, each by itself and beside others.
func TestChanges(t *testing.T) {
	was := []string{"doc:1#owner@user:ann", "doc:1#viewer@user:ann with c{at: 4}", "doc:2#owner@user:bob"}
	for _, c := range []struct {
		name string
		l    []api.Change
		want []string
	}{
		{"an insert", ins("doc:1#owner@user:bob"), []string{was[0], "doc:1#owner@user:bob", was[1], was[2]}},
		{"an insert ahead of all", ins("doc:0#owner@user:z"), []string{"doc:0#owner@user:z", was[0], was[1], was[2]}},
		{"an insert behind all", ins("doc:3#viewer@user:*"), []string{was[0], was[1], was[2], "doc:3#viewer@user:*"}},
		{"a delete", []api.Change{out(was[0])}, []string{was[1], was[2]}},
		{"a delete of all", []api.Change{out(was[2]), out(was[0]), out(v)}, nil},
		{"a touch of what is there", []api.Change{touch("doc:1#viewer@user:ann with d{x: 0.25}")}, []string{was[0], "doc:1#viewer@user:ann with d{x: 0.25}", was[2]}},
		{"a touch with other arguments", []api.Change{touch("doc:1#viewer@user:ann with c{at: 5}")}, []string{was[0], "doc:1#viewer@user:ann with c{at: 5}", was[2]}},
		{"a touch with the same", []api.Change{touch(was[1])}, was},
		{"a touch of what isn't there", []api.Change{touch("team:x#member@team:y#member")}, []string{was[0], was[1], was[2], "team:x#member@team:y#member"}},
		{"all three", []api.Change{touch("doc:1#viewer@user:ann with c"), out(was[2]), in("doc:2#owner@user:ann")}, []string{was[0], "doc:1#viewer@user:ann with c", "doc:2#owner@user:ann"}},
		{"nothing", nil, was},
	} {
		s := roomy(t, wideText, was...)
		wantWrite(t, s, 2, c.l...)
		wantAt(t, s, 2, c.want...)
		wantAt(t, s, 1, was...)
		wantAt(t, s, 0)
		wantCommit(t, s, 2, c.l...)
		if t.Failed() {
			t.Fatal(c.name)
		}
	}
}

// P12.2: the commit has the changes as they stand, not as they rise.
func TestCommitOrder(t *testing.T) {
	s := roomy(t, wideText)
	l := []api.Change{in("doc:9#owner@user:z"), touch("doc:1#viewer@user:a with c{at: 4, l: [\"b\", \"a\"]}"), in("doc:5#owner@user:m"), touch("doc:0#owner@user:b")}
	wantWrite(t, s, 2, l...)
	wantCommit(t, s, 2, l...)
	back := []api.Change{out("doc:9#owner@user:z"), touch("doc:5#owner@user:m"), out("doc:0#owner@user:b")}
	wantWrite(t, s, 3, back...)
	wantCommit(t, s, 3, back...)
	wantCommit(t, s, 2, l...)
}

// P12.2: of a delete Cond and Args say nothing, whatever stands there.
func TestDeleteByKeyAlone(t *testing.T) {
	many := make([]api.Arg, 40)
	for _, x := range []api.Tuple{
		{}, {Cond: "c"}, {Cond: "d"}, {Cond: "none"}, {Cond: "NO NAME \xff"}, {Args: []api.Arg{arg("at", 1)}}, {Cond: "c", Args: []api.Arg{arg("z", 1), arg("a", 2)}},
		{Args: many}, {Cond: "c", Args: []api.Arg{{Name: "at", Value: api.Value{Kind: 9, Texts: []string{"x"}}}}},
	} {
		for _, there := range []string{"doc:1#viewer@user:ann with c{at: 4}", "doc:1#viewer@user:*", "doc:1#viewer@team:x#member with d", "team:x#member@team:*", "team:x#member@user:* with c"} {
			s := roomy(t, wideText, there, o)
			k := fact(there)
			x.Object, x.Rel, x.Subject = k.Object, k.Rel, k.Subject
			wantWrite(t, s, 2, api.Change{Kind: api.ChangeDelete, Tuple: x})
			wantAt(t, s, 2, o)
			k.Cond, k.Args = "", nil
			wantCommit(t, s, 2, api.Change{Kind: api.ChangeDelete, Tuple: k})
		}
	}
}

// P12.2, Words: deletes that may not be asked, each for its own reason; whether the key is there isn't asked then.
func TestDeletesThatMayNotBeAsked(t *testing.T) {
	s := roomy(t, wideText, o, "doc:1#viewer@user:*", "team:x#member@user:ann")
	of := func(typ, id, rel string, sub api.Subject) []api.Change {
		return []api.Change{{Kind: api.ChangeDelete, Tuple: api.Tuple{Object: object(typ, id), Rel: rel, Subject: sub}}}
	}
	ann, all, set := subject("user", "ann", ""), subject("user", "*", ""), subject("team", "x", "member")
	for _, c := range []struct {
		l    []api.Change
		want api.Errno
	}{
		{of("file", "1", "owner", ann), api.ErrType}, {of("", "1", "owner", ann), api.ErrType}, {of("", "", "", api.Subject{}), api.ErrType}, {of("docs", "*", "x", all), api.ErrType},
		{of("doc", "", "owner", ann), api.ErrId}, {of("doc", "*", "owner", ann), api.ErrId}, {of("doc", "a b", "reader", ann), api.ErrId}, {of("user", "*", "owner", ann), api.ErrId},
		{of("doc", "1", "reader", ann), api.ErrRelation}, {of("doc", "1", "", ann), api.ErrRelation}, {of("doc", "1", "member", api.Subject{}), api.ErrRelation}, {of("user", "1", "owner", ann), api.ErrRelation}, {of("team", "x", "owner", ann), api.ErrRelation},
		{of("doc", "1", "owner", api.Subject{}), api.ErrSubject}, {of("doc", "1", "owner", subject("bot", "1", "")), api.ErrSubject}, {of("doc", "1", "owner", subject("user", "a b", "")), api.ErrSubject}, {of("doc", "1", "owner", subject("team", "x", "owner")), api.ErrSubject}, {of("doc", "1", "viewer", subject("team", "*", "member")), api.ErrSubject}, {of("doc", "1", "viewer", subject("user", "x", "member")), api.ErrSubject}, {of("doc", "1", "any", subject("bot", "*", "")), api.ErrSubject},
		{of("doc", "1", "owner", all), api.ErrAllowed}, {of("doc", "1", "owner", set), api.ErrAllowed}, {of("doc", "1", "owner", subject("doc", "1", "")), api.ErrAllowed}, {of("doc", "1", "viewer", subject("team", "x", "")), api.ErrAllowed}, {of("doc", "1", "viewer", subject("team", "*", "")), api.ErrAllowed}, {of("doc", "1", "viewer", subject("doc", "1", "owner")), api.ErrAllowed}, {of("doc", "1", "any", ann), api.ErrAllowed}, {of("team", "x", "member", subject("team", "y", "")), api.ErrAllowed}, {of("team", "x", "member", subject("doc", "1", "viewer")), api.ErrAllowed},
		// These may be asked, so that it isn't there is told.
		{of("doc", "9", "owner", ann), api.ErrAbsent}, {of("doc", "9", "viewer", ann), api.ErrAbsent}, {of("doc", "9", "viewer", all), api.ErrAbsent}, {of("doc", "9", "viewer", set), api.ErrAbsent}, {of("team", "9", "member", all), api.ErrAbsent}, {of("team", "9", "member", subject("team", "*", "")), api.ErrAbsent}, {of("team", "9", "member", set), api.ErrAbsent},
	} {
		if want := lookedAt(model(t, wideText), c.l[0]); c.want != api.ErrAbsent && want != c.want {
			t.Fatalf("the test is wrong about %+v: %d", c.l, want)
		}
		wantRefused(t, s, c.want, c.l)
		// Cond and Args say nothing of why it may not be asked, either.
		c.l[0].Tuple.Cond, c.l[0].Tuple.Args = "d", []api.Arg{arg("no", 1), arg("no", 1)}
		wantRefused(t, s, c.want, c.l)
	}
}

// P12.2: what tuples.Check says of inserts and touches is told, each reason; whether the key is there isn't asked then.
func TestTuplesThatDoNotFit(t *testing.T) {
	s := roomy(t, wideText, o, "doc:1#viewer@user:ann with c")
	bare := fact("doc:1#viewer@user:ann with c")
	bare.Cond, bare.Args = "", []api.Arg{arg("at", 1)}
	owner := fact(o)
	owner.Args = []api.Arg{arg("at", 1)}
	nameless := fact(o)
	nameless.Object.Id = ""
	nobody := fact(o)
	nobody.Subject = api.Subject{}
	for _, c := range []struct {
		x    api.Tuple
		want api.Errno
	}{
		{api.Tuple{}, api.ErrType}, {fact("file:1#owner@user:ann"), api.ErrType},
		{nameless, api.ErrId},
		{fact("doc:1#reader@user:ann"), api.ErrRelation}, {fact("user:1#owner@user:ann"), api.ErrRelation},
		{nobody, api.ErrSubject}, {fact("doc:1#owner@bot:1"), api.ErrSubject}, {fact("doc:1#viewer@team:x#owner"), api.ErrSubject},
		{fact("doc:1#owner@user:*"), api.ErrAllowed}, {fact("doc:1#owner@user:ann with c"), api.ErrAllowed}, {fact(v), api.ErrAllowed}, {bare, api.ErrAllowed}, {fact("doc:1#viewer@user:* with c"), api.ErrAllowed}, {fact("doc:1#any@user:ann"), api.ErrAllowed},
		{owner, api.ErrArgs},
		{fact("doc:1#viewer@user:ann with c{by: 1}"), api.ErrParam},
		{fact(`doc:1#viewer@user:ann with c{at: "4"}`), api.ErrKind},
	} {
		for _, kind := range []int{api.ChangeInsert, api.ChangeTouch} {
			wantRefused(t, s, c.want, []api.Change{{Kind: kind, Tuple: c.x}})
			wantRefused(t, s, c.want, []api.Change{touch("doc:5#owner@user:z"), {Kind: kind, Tuple: c.x}, in(o)})
		}
	}
}

// P12.2: changes of no kind.
func TestKinds(t *testing.T) {
	s := roomy(t, plainText)
	for _, kind := range []int{0, 4, -1, 5, -3, 100, 1 << 40, -1 << 62} {
		wantRefused(t, s, api.ErrArg, []api.Change{{Kind: kind, Tuple: fact(o)}})
		wantRefused(t, s, api.ErrArg, []api.Change{in(o), {Kind: kind}})
	}
}

// P12.2: the same key twice, by each two kinds, next to one another and far apart, there and not, whatever Cond and Args.
func TestTwice(t *testing.T) {
	s := roomy(t, plainText, o)
	for _, x := range []string{o, "doc:7#viewer@user:ann with c{at: 9}"} {
		for _, first := range []func(string) api.Change{in, out, touch} {
			for _, second := range []func(string) api.Change{in, out, touch} {
				wantRefused(t, s, api.ErrTwice, []api.Change{first(x), second(x)})
				wantRefused(t, s, api.ErrTwice, []api.Change{first(x), in("doc:8#owner@user:x"), in("doc:2#owner@user:x"), second(x)})
			}
		}
	}
	wantRefused(t, s, api.ErrTwice, []api.Change{in("doc:7#viewer@user:ann"), touch("doc:7#viewer@user:ann with c")})
	wantRefused(t, s, api.ErrTwice, []api.Change{out("doc:7#viewer@user:ann with x{a: 1}"), out("doc:7#viewer@user:ann with y")})
	// Keys that are like one another in all but one field are others.
	wide := roomy(t, wideText)
	wantWrite(t, wide, 2, ins("doc:7#owner@user:ann", "doc:7#viewer@user:ann with c", "doc:8#owner@user:ann", "doc:7#owner@user:bob", "doc:7#viewer@user:*", "team:7#member@user:ann", "team:7#member@team:ann#member", "team:7#member@team:*")...)
}

// P12.2: premises that must and that must not, with something there and nothing, beside changes and without.
func TestPremises(t *testing.T) {
	s := roomy(t, wideText, o, "doc:1#viewer@user:ann with c{at: 4}", "doc:10#viewer@user:*", "team:x#member@team:y#member")
	yes := []api.Filter{
		{}, {Type: "doc"}, {Type: "team"}, {Id: "1"}, {Id: "x"}, {Rel: "viewer"}, {Rel: "member"}, {Cond: "c"}, {Subject: subject("user", "", "")}, {Subject: subject("", "ann", "")}, {Subject: subject("", "*", "")}, {Subject: subject("", "", "member")},
		{Type: "doc", Id: "10"}, {Type: "doc", Id: "1", Rel: "viewer"}, {Type: "doc", Rel: "viewer"}, {Type: "doc", Subject: subject("user", "*", "")}, {Id: "x", Rel: "member"}, {Type: "doc", Id: "1", Rel: "viewer", Subject: subject("user", "ann", ""), Cond: "c"}, {Type: "team", Id: "x", Subject: subject("team", "y", "member")}, {Type: "doc", Id: "1", Cond: "c"},
	}
	no := []api.Filter{
		{Type: "file"}, {Type: "do"}, {Type: "docs"}, {Type: "a"}, {Type: "zz"}, {Id: "2"}, {Id: "*"}, {Rel: "any"}, {Cond: "d"}, {Subject: subject("bot", "", "")}, {Subject: subject("", "bob", "")}, {Subject: subject("", "", "owner")},
		{Type: "doc", Id: "x"}, {Type: "doc", Id: "1", Rel: "member"}, {Type: "doc", Id: "10", Rel: "owner"}, {Type: "doc", Id: "10", Cond: "c"}, {Type: "team", Rel: "owner"}, {Type: "doc", Subject: subject("team", "", "")}, {Type: "doc", Id: "1", Rel: "viewer", Subject: subject("user", "ann", ""), Cond: "d"}, {Type: "no such \xff"}, {Id: "1", Rel: "member"},
	}
	rev := int64(1)
	write := func(want api.Errno, pres ...api.Pre) {
		t.Helper()
		if want != api.OK {
			wantRefused(t, s, want, nil, pres...)
			wantRefused(t, s, want, []api.Change{in("doc:77#owner@user:z")}, pres...)
			return
		}
		rev++
		if got, e := s.Write(nil, pres); got != rev || e != api.OK {
			t.Errorf("%+v: %d, %d", pres, got, e)
		}
	}
	for i, f := range yes {
		write(api.OK, must(f))
		write(api.ErrPre, mustNot(f))
		write(api.OK, must(f), mustNot(no[i]), must(f))
		write(api.ErrPre, must(f), must(no[i]))
	}
	for i, f := range no {
		write(api.OK, mustNot(f))
		write(api.ErrPre, must(f))
		write(api.ErrPre, mustNot(f), mustNot(f), mustNot(yes[i%len(yes)]))
	}
}

// P12.2: premises are asked of the newest revision, not of what the write makes of it; ahead of any tuple nothing is let through.
func TestPremisesAheadOfTheWrite(t *testing.T) {
	s := made(t, plainText, api.Limits{Tuples: 10, Keep: 10}, 0)
	all := api.Filter{}
	for _, f := range []api.Filter{all, {Rel: "owner"}, {Type: "doc", Id: "1"}, {Type: "doc", Id: "1", Rel: "owner", Subject: subject("user", "ann", "")}} {
		wantRefused(t, s, api.ErrPre, ins(o), must(f))
		wantRefused(t, s, api.ErrPre, nil, must(f))
	}
	if rev, e := s.Write(ins(o), []api.Pre{mustNot(all), mustNot(api.Filter{Rel: "owner"})}); rev != 1 || e != api.OK {
		t.Errorf("%d, %d", rev, e)
	}
	wantRefused(t, s, api.ErrPre, []api.Change{out(o)}, mustNot(api.Filter{Rel: "owner"}))
	if rev, e := s.Write([]api.Change{out(o)}, []api.Pre{must(api.Filter{Rel: "owner"})}); rev != 2 || e != api.OK {
		t.Errorf("%d, %d", rev, e)
	}
	// Nor of the revision ahead of the newest one.
	wantRefused(t, s, api.ErrPre, nil, must(all))
	// A touch that takes a Cond away does so behind the premise.
	wantWrite(t, s, 3, in(w))
	if rev, e := s.Write([]api.Change{touch(v)}, []api.Pre{must(api.Filter{Cond: "c"})}); rev != 4 || e != api.OK {
		t.Errorf("%d, %d", rev, e)
	}
	wantRefused(t, s, api.ErrPre, []api.Change{touch(w)}, must(api.Filter{Cond: "c"}))
}

// P12.2: a write of no changes makes a revision, with nil and with an empty list.
func TestNoChanges(t *testing.T) {
	s := roomy(t, plainText, o)
	for i, l := range [][]api.Change{nil, {}, nil} {
		rev := int64(2 + i)
		wantWrite(t, s, rev, l...)
		wantAt(t, s, rev, o)
		wantCommit(t, s, rev)
		if c, _ := s.Commit(rev); len(c.Changes) != 0 {
			t.Errorf("%+v", c)
		}
	}
}

// P12.2, Limits: 256 changes and 16 premises are let through, one more is too much, each by itself.
func TestMostChangesAndPremises(t *testing.T) {
	s := made(t, plainText, api.Limits{Tuples: 1000, Keep: 3}, 0)
	if api.MaxBatch != 256 || api.MaxPres != 16 {
		t.Fatal(api.MaxBatch, api.MaxPres)
	}
	most, many := make([]api.Pre, 16), make([]api.Pre, 17)
	wantRefused(t, s, api.ErrLong, ins(owners(0, 257)...))
	wantRefused(t, s, api.ErrLong, nil, many...)
	wantRefused(t, s, api.ErrLong, ins(owners(0, 256)...), many...)
	wantRefused(t, s, api.ErrLong, ins(owners(0, 257)...), most...)
	if rev, e := s.Write(ins(owners(0, 256)...), most); rev != 1 || e != api.OK {
		t.Fatalf("%d, %d", rev, e)
	}
	wantAt(t, s, 1, owners(0, 256)...)
	wantWrite(t, s, 2, ins(owners(256, 255)...)...)
	wantAt(t, s, 2, owners(0, 511)...)
	c, _ := s.Commit(1)
	if len(c.Changes) != 256 {
		t.Errorf("%d changes", len(c.Changes))
	}
}

// P12.2, Limits: as many tuples as the limit says, and one more; what a write takes away makes room for what it brings, wherever it stands.
func TestFull(t *testing.T) {
	for most := 1; most < 6; most++ {
		s := made(t, plainText, api.Limits{Tuples: most, Keep: 10}, 0)
		all := owners(0, most+1)
		wantRefused(t, s, api.ErrFull, ins(all...))
		wantWrite(t, s, 1, ins(all[:most]...)...)
		wantRefused(t, s, api.ErrFull, ins(all[most]))
		wantRefused(t, s, api.ErrFull, []api.Change{touch(all[most])})
		wantWrite(t, s, 2, touch(all[0]))
		wantWrite(t, s, 3, in(all[most]), out(all[0]))
		wantWrite(t, s, 4, out(all[1]), touch(all[0]))
		wantAt(t, s, 4, append([]string{all[0]}, all[2:]...)...)
		wantRefused(t, s, api.ErrFull, []api.Change{in(all[1]), touch("doc:9#owner@user:x"), out(all[0])})
		wantWrite(t, s, 5)
		wantChange(t, s, model(t, plainText), 6)
	}
}

// P12.2, P12.3: the newest revision is MaxRev only at the end, and then nothing more is taken, though it be kept and read on.
func TestEnd(t *testing.T) {
	s := made(t, plainText, api.Limits{Tuples: 10, Keep: 2}, api.MaxRev-2)
	wantWrite(t, s, api.MaxRev-1, in(o))
	wantChange(t, s, model(t, plainText), api.MaxRev)
	for _, l := range [][]api.Change{nil, ins(v), ins(o), {{}}, make([]api.Change, 256)} {
		wantRefused(t, s, api.ErrEnd, l)
		wantRefused(t, s, api.ErrEnd, l, must(api.Filter{Rel: "none"}))
	}
	wantRefused(t, s, api.ErrLong, make([]api.Change, 257))
	wantNoChange(t, s, model(t, plainText), api.ErrEnd)
	wantNoChange(t, s, model(t, "type none"), api.ErrEnd)
	wantAt(t, s, api.MaxRev, o)
	if e := s.Trim(api.MaxRev); e != api.OK {
		t.Error(e)
	}
	wantKept(t, s, api.MaxRev, api.MaxRev)
	wantNoSnap(t, s, api.MaxRev+1, api.ErrFuture)
}

// P12.2: the newest model is asked, not an older one.
func TestNewestModel(t *testing.T) {
	s := roomy(t, plainText, o)
	wantChange(t, s, model(t, "type user type doc relation owner: [user] relation reader: [user]"), 2)
	wantRefused(t, s, api.ErrRelation, ins(v))
	wantRefused(t, s, api.ErrRelation, []api.Change{out(v)})
	wantWrite(t, s, 3, in("doc:1#reader@user:ann"))
	wantWrite(t, s, 4, out(o))
	wantAt(t, s, 4, "doc:1#reader@user:ann")
	wantChange(t, s, model(t, "type user type doc relation reader: [user, user with c] cond c(at: int): true"), 5)
	wantWrite(t, s, 6, touch("doc:1#reader@user:ann with c{at: 1}"))
	wantRefused(t, s, api.ErrRelation, ins(o))
	wantAt(t, s, 1, o)
}

// P12.2: many revisions, each with what was in it.
func TestManyWrites(t *testing.T) {
	s := made(t, plainText, api.Limits{Tuples: 1000, Keep: 1000}, 0)
	all := owners(0, 300)
	for i, x := range all {
		wantWrite(t, s, int64(i+1), in(x))
	}
	for i, x := range all {
		wantWrite(t, s, int64(300+i+1), out(x))
	}
	for i := range 300 {
		wantAt(t, s, int64(i), all[:i]...)
		wantAt(t, s, int64(300+i), all[i:]...)
		wantCommit(t, s, int64(i+1), in(all[i]))
	}
	wantAt(t, s, 600)
}
