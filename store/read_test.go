package store_test

import (
	"fmt"
	"slices"
	"testing"

	"latchkey/api"
	"latchkey/store"
	"latchkey/tuples"
)

// filters let through all, some, one or none of mixed, in one stretch and here and there.
func filters() []api.Filter {
	return []api.Filter{
		{}, {Type: "doc"}, {Type: "team"}, {Type: "do"}, {Type: "docs"}, {Type: "doc", Id: "1"}, {Type: "doc", Id: "1", Rel: "viewer"}, {Type: "doc", Rel: "viewer"}, {Type: "doc", Id: "10", Cond: "d"}, {Id: "1"}, {Id: "x"}, {Id: "1", Rel: "owner"}, {Rel: "viewer"}, {Rel: "member"}, {Rel: "none"},
		{Subject: subject("user", "", "")}, {Subject: subject("user", "ann", "")}, {Subject: subject("", "*", "")}, {Subject: subject("", "", "member")}, {Subject: subject("team", "x", "member")}, {Cond: "c"}, {Cond: "d"}, {Cond: "zzz"}, {Type: "doc", Subject: subject("user", "ann", "")}, {Type: "team", Id: "x", Rel: "member", Subject: subject("team", "", ""), Cond: ""},
		{Type: "doc", Id: "1", Rel: "viewer", Subject: subject("user", "ann", ""), Cond: "c"}, {Type: "\xff", Id: "*", Rel: " "}, {Type: "team", Id: "y", Rel: "owner"},
	}
}

// let are the texts of those of mixed that a filter lets through.
func let(f api.Filter) []string {
	var l []string
	for _, s := range mixed() {
		if lets(f, fact(s)) {
			l = append(l, s)
		}
	}
	return l
}

// follow reads page by page, from after on, and answers the texts of all; each page but the last must be full, and the last one not empty, but if it is the first.
func follow(t *testing.T, s *store.Store, rev int64, f api.Filter, after api.Tuple, size int) []string {
	t.Helper()
	var all []string
	for n := 0; ; n++ {
		l, more, e := s.Read(rev, f, after, size)
		if e != api.OK || more && len(l) != size || len(l) > size || n > 0 && len(l) == 0 {
			t.Fatalf("Read(%d, %+v, %s, %d): %d tuples, %v, %d", rev, f, textOf(after), size, len(l), more, e)
		}
		all = append(all, texts(l)...)
		if !more {
			return all
		}
		after = l[len(l)-1]
	}
}

// P12.6, P12.8: Read, followed page by page for pages of 1, 2 and many, tells those of All that the filter lets through, each once, in order.
func TestReadFollowed(t *testing.T) {
	s := mixedStore(t)
	wantWrite(t, s, 2, out(mixed()[0]), in("doc:0#owner@user:z"))
	for _, f := range filters() {
		for _, size := range []int{1, 2, 3, 5, 13, 14, 15, 1000} {
			wantTexts(t, fmt.Sprintf("%+v by %d", f, size), follow(t, s, 1, f, api.Tuple{}, size), let(f))
		}
	}
}

// P12.6: from tuples that are there, that aren't, ahead of all and behind all, with a filter and without; Cond and Args of it say nothing.
func TestReadFrom(t *testing.T) {
	s := mixedStore(t)
	var afters []api.Tuple
	for _, text := range mixed() {
		x := fact(text)
		afters = append(afters, x, keyAlone(x), api.Tuple{Object: x.Object}, api.Tuple{Object: x.Object, Rel: x.Rel})
		for i := range 6 {
			y := keyAlone(x)
			*[]*string{&y.Object.Type, &y.Object.Id, &y.Rel, &y.Subject.Type, &y.Subject.Id, &y.Subject.Rel}[i] += "\x00"
			afters = append(afters, y)
		}
	}
	afters = append(afters, api.Tuple{}, api.Tuple{Cond: "zzz", Args: []api.Arg{arg("z", 1)}}, fact("zzz:z#z@z:z"), fact("a:a#a@a:a"), api.Tuple{Object: object("\xff", "")}, api.Tuple{Subject: subject("user", "ann", "")}, api.Tuple{Rel: "owner"}, api.Tuple{Object: object("", "1")})
	for _, f := range filters() {
		for _, after := range afters {
			var want []string
			for _, text := range let(f) {
				if tuples.Compare(fact(text), after) > 0 {
					want = append(want, text)
				}
			}
			wantRead(t, s, 1, f, after, 1000, false, want...)
			wantRead(t, s, 1, f, after, 1, len(want) > 1, want[:min(1, len(want))]...)
			wantTexts(t, "followed", follow(t, s, 1, f, after, 2), want)
		}
	}
}

// P12.6: whether there are more, where as many are left as are asked for, one fewer and one more.
func TestReadMore(t *testing.T) {
	s := mixedStore(t)
	for n := 1; n <= 16; n++ {
		wantRead(t, s, 1, api.Filter{}, api.Tuple{}, n, n < 14, mixed()[:min(n, 14)]...)
	}
	// What the filter doesn't let through is no more.
	wantRead(t, s, 1, api.Filter{Type: "doc"}, api.Tuple{}, 9, false, mixed()[:9]...)
	wantRead(t, s, 1, api.Filter{Type: "doc"}, api.Tuple{}, 8, true, mixed()[:8]...)
	wantRead(t, s, 1, api.Filter{Subject: subject("user", "bob", "")}, api.Tuple{}, 1, false, mixed()[1])
}

// P12.6: of an empty revision, and of each revision what it had.
func TestReadByRevision(t *testing.T) {
	s := mixedStore(t)
	wantRead(t, s, 0, api.Filter{}, api.Tuple{}, 5, false)
	wantWrite(t, s, 2, out(mixed()[0]), touch("doc:1#viewer@user:ann with d"))
	wantRead(t, s, 1, api.Filter{}, api.Tuple{}, 1, true, mixed()[0])
	wantRead(t, s, 2, api.Filter{}, api.Tuple{}, 1, true, mixed()[1])
	wantRead(t, s, 1, api.Filter{Cond: "c"}, api.Tuple{}, 5, false, mixed()[4], mixed()[13])
	wantRead(t, s, 2, api.Filter{Cond: "c"}, api.Tuple{}, 5, false, mixed()[13])
}

// P12.6, Limits: a page of 1000 is let through, of 1001 and of 0 none.
func TestMostRead(t *testing.T) {
	s := made(t, plainText, api.Limits{Tuples: 3000, Keep: 50}, 0)
	all := owners(0, 2500)
	for i := 0; i < len(all); i += 250 {
		wantWrite(t, s, int64(i/250+1), ins(all[i:i+250]...)...)
	}
	for _, size := range []int{0, -1, -1 << 62, 1001, 1 << 62} {
		wantNoRead(t, s, 10, size, api.ErrArg)
	}
	wantRead(t, s, 10, api.Filter{}, api.Tuple{}, 1000, true, all[:1000]...)
	wantRead(t, s, 10, api.Filter{}, api.Tuple{}, 999, true, all[:999]...)
	wantRead(t, s, 10, api.Filter{}, fact(all[1499]), 1000, false, all[1500:]...)
	wantRead(t, s, 10, api.Filter{}, fact(all[1498]), 1000, true, all[1499:2499]...)
	wantRead(t, s, 4, api.Filter{}, api.Tuple{}, 1000, false, all[:1000]...)
	for _, size := range []int{1, 2, 7, 500, 1000} {
		wantTexts(t, "followed", follow(t, s, 10, api.Filter{}, api.Tuple{}, size), all)
		var some []string
		for i, x := range all {
			if i%7 == 3 {
				some = append(some, x)
			}
		}
		wantTexts(t, "followed", follow(t, s, 10, api.Filter{Subject: subject("", "u3", "")}, api.Tuple{}, size), some)
	}
}

// P12.8: All is what Of tells of each object and relation, and what By tells of each subject, put together; Len is how many they are; of two revisions the later one's tuples are the earlier one's with the changes of its commit made.
func TestWhatFollows(t *testing.T) {
	c := seeded(7)
	b := bothOf(t, model(t, wideText), api.Limits{Tuples: 30, Keep: 100}, 3)
	for n := 0; b.s.Newest() < 80; n++ {
		if n%9 == 8 {
			b.change(models(t)[c.Intn(2)])
			continue
		}
		b.write(fitting(c, b.p), nil)
	}
	made := map[int]int{}
	for rev := b.s.Oldest() + 1; rev <= b.s.Newest(); rev++ {
		before, after := snapOf(t, b.s, rev-1), snapOf(t, b.s, rev)
		facts := map[key]string{}
		for x := range before.All() {
			facts[keyOf(x)] = wholeTuple(x)
		}
		commit, e := b.s.Commit(rev)
		if e != api.OK {
			t.Fatal(e)
		}
		made[commit.Kind]++
		for _, x := range commit.Changes {
			made[10+x.Kind]++
			facts[keyOf(x.Tuple)] = wholeTuple(x.Tuple)
			if x.Kind == api.ChangeDelete {
				delete(facts, keyOf(x.Tuple))
			}
		}
		byObject, bySubject := map[api.Grant]int{}, map[api.Subject]int{}
		all := slices.Collect(after.All())
		if len(all) != len(facts) || after.Len() != len(facts) || !slices.IsSortedFunc(all, tuples.Compare) {
			t.Fatalf("%d: %q", rev, texts(all))
		}
		for _, x := range all {
			if facts[keyOf(x)] != wholeTuple(x) || tuples.Check(after.Model(), x) != api.OK {
				t.Errorf("%d: %s, want %s", rev, wholeTuple(x), facts[keyOf(x)])
			}
			byObject[api.Grant{Object: x.Object, Rel: x.Rel}]++
			bySubject[x.Subject]++
		}
		for g, n := range byObject {
			l := slices.Collect(after.Of(g.Object, g.Rel))
			if len(l) != n || slices.ContainsFunc(l, func(x api.Tuple) bool { return x.Object != g.Object || x.Rel != g.Rel }) {
				t.Errorf("Of(%+v): %q, want %d", g, texts(l), n)
			}
		}
		for sub, n := range bySubject {
			l := slices.Collect(after.By(sub))
			if len(l) != n || slices.ContainsFunc(l, func(x api.Tuple) bool { return x.Subject != sub }) {
				t.Errorf("By(%+v): %q, want %d", sub, texts(l), n)
			}
		}
	}
	for _, kind := range []int{api.CommitWrite, api.CommitSchema, 10 + api.ChangeInsert, 10 + api.ChangeDelete, 10 + api.ChangeTouch} {
		if made[kind] < 5 {
			t.Error(made)
		}
	}
}
