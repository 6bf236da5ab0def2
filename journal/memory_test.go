package journal_test

import (
	"bytes"
	"fmt"
	"runtime"
	"sync"
	"testing"

	"latchkey/api"
	"latchkey/journal"
)

func withRoom[T any](l []T, behind T) []T {
	return append(append(make([]T, 0, len(l)+2), l...), behind, behind)[:len(l)]
}

// wideTuple has lists with something in the room behind their ends.
func wideTuple(s string) api.Tuple {
	x := fact(s)
	x.Args = withRoom(x.Args, arg("behind", 1))
	for i := range x.Args {
		x.Args[i].Value.Texts = withRoom(x.Args[i].Value.Texts, "behind")
	}
	return x
}

func wideChanges() []api.Change {
	return withRoom([]api.Change{
		{Kind: api.ChangeInsert, Tuple: wideTuple(`doc:1#viewer@user:ann with c{at: 4, l: ["b", "a", ""]}`)},
		{Kind: api.ChangeTouch, Tuple: wideTuple(`doc:2#viewer@user:ann with c{l: ["b"]}`)},
		{Kind: api.ChangeInsert, Tuple: wideTuple("doc:1#owner@user:ann")},
	}, in("doc:9#owner@user:behind"))
}

// wideSchema has lists with something in the room behind their ends.
func wideSchema() api.Schema {
	s := parsed(wideText + ` cond e(t: text): t in ["a", "b"]`)
	for i := range s.Types {
		x := &s.Types[i]
		for k := range x.Relations {
			n := &x.Relations[k]
			for j := range n.Rewrite {
				n.Rewrite[j].Allow = withRoom(n.Rewrite[j].Allow, api.Allow{Type: "behind"})
			}
			n.Rewrite = withRoom(n.Rewrite, api.Node{Kind: 99})
		}
		x.Relations = withRoom(x.Relations, api.Relation{Name: "behind"})
	}
	s.Types = withRoom(s.Types, api.Type{Name: "behind"})
	for i := range s.Conds {
		c := &s.Conds[i]
		for k := range c.Expr {
			c.Expr[k].Value.Texts = withRoom(c.Expr[k].Value.Texts, "behind")
		}
		c.Expr = withRoom(c.Expr, api.Part{Kind: 99})
		c.Params = withRoom(c.Params, api.Param{Name: "behind"})
	}
	s.Conds = withRoom(s.Conds, api.Cond{Name: "behind"})
	return s
}

// behindToo tells all that stands in a commit's lists and in the room behind them.
func behindToo(c api.Commit) string {
	s := fmt.Sprintln(c.Rev, c.Kind)
	for _, x := range c.Changes[:cap(c.Changes)] {
		s += fmt.Sprintln(x.Kind, wholeTuple(x.Tuple))
		for _, a := range x.Tuple.Args[:cap(x.Tuple.Args)] {
			s += fmt.Sprintf("%q %d %q\n", a.Name, a.Value.Int, a.Value.Texts[:cap(a.Value.Texts)])
		}
	}
	for _, x := range c.Schema.Types[:cap(c.Schema.Types)] {
		s += fmt.Sprintln(x.Name)
		for _, y := range x.Relations[:cap(x.Relations)] {
			s += fmt.Sprintln(y.Name, y.Rewrite[:cap(y.Rewrite)])
			for _, z := range y.Rewrite {
				s += fmt.Sprintln(z.Allow[:cap(z.Allow)])
			}
		}
	}
	for _, x := range c.Schema.Conds[:cap(c.Schema.Conds)] {
		s += fmt.Sprintln(x.Name, x.Params[:cap(x.Params)], x.Expr[:cap(x.Expr)])
		for _, y := range x.Expr {
			s += fmt.Sprintf("%q\n", y.Value.Texts[:cap(y.Value.Texts)])
		}
	}
	return s
}

// scrawl writes all over a commit's lists and the room behind them.
func scrawl(c api.Commit) {
	for i := range c.Changes[:cap(c.Changes)] {
		x := &c.Changes[:cap(c.Changes)][i]
		for k := range x.Tuple.Args[:cap(x.Tuple.Args)] {
			a := &x.Tuple.Args[:cap(x.Tuple.Args)][k]
			clear(a.Value.Texts[:cap(a.Value.Texts)])
			*a = api.Arg{Name: "scrawl"}
		}
		*x = api.Change{Kind: 9, Tuple: fact("scrawl:s#s@s:s")}
	}
	for i := range c.Schema.Types[:cap(c.Schema.Types)] {
		x := &c.Schema.Types[:cap(c.Schema.Types)][i]
		for k := range x.Relations[:cap(x.Relations)] {
			y := &x.Relations[:cap(x.Relations)][k]
			for _, n := range y.Rewrite[:cap(y.Rewrite)] {
				clear(n.Allow[:cap(n.Allow)])
			}
			clear(y.Rewrite[:cap(y.Rewrite)])
			*y = api.Relation{}
		}
		*x = api.Type{Name: "scrawl"}
	}
	for i := range c.Schema.Conds[:cap(c.Schema.Conds)] {
		x := &c.Schema.Conds[:cap(c.Schema.Conds)][i]
		for _, y := range x.Expr[:cap(x.Expr)] {
			clear(y.Value.Texts[:cap(y.Value.Texts)])
		}
		clear(x.Expr[:cap(x.Expr)])
		clear(x.Params[:cap(x.Params)])
		*x = api.Cond{Name: "scrawl"}
	}
}

func scrawlBytes(b []byte) {
	for i := range b[:cap(b)] {
		b[:cap(b)][i] ^= 0x55
	}
}

// DOC.md, Memory: no list that comes in is written, nor the room behind its end, nor is that room read, whatever is answered.
func TestNothingIsWritten(t *testing.T) {
	c := api.Commit{Rev: 5, Kind: api.CommitWrite, Changes: wideChanges(), Schema: wideSchema()}
	pres := withRoom([]api.Pre{{Filter: api.Filter{Cond: "d"}}}, api.Pre{Must: true, Filter: api.Filter{Rel: "behind"}})
	was, wasPres := behindToo(c), fmt.Sprint(pres[:3])
	wantRecord(t, c, plainRecord(written(5, c.Changes...)))
	c.Kind = api.CommitSchema
	record(t, c)
	c.Kind, c.Changes[1].Kind = api.CommitWrite, api.ChangeDelete
	record(t, c)
	c.Changes[1].Kind = api.ChangeTouch
	wantNoRecord(t, api.Commit{Rev: -1, Kind: api.CommitWrite, Changes: c.Changes}, api.ErrArg)
	b := made(t, wideText, roomy(), 0)
	if rev, e := b.Write(c.Changes, pres); rev != 1 || e != api.OK {
		t.Fatalf("%d, %d", rev, e)
	}
	wantRefused(t, b, api.ErrThere, c.Changes)
	if now := behindToo(c); now != was || fmt.Sprint(pres[:3]) != wasPres {
		t.Errorf("%s\nbut\n%s", was, now)
	}
	// Of bytes the room behind is a record that would be told, if it were read.
	all := bytesOf(b)
	row := append([]byte(all), record(t, written(2))...)
	kept := string(row)
	if l, n := journal.Scan(row[:len(all)]); len(l) != 2 || n != len(all) {
		t.Errorf("%d commits, %d bytes", len(l), n)
	}
	o, e := journal.Open(row[:len(all)], roomy())
	if e != api.OK {
		t.Fatal(e)
	}
	wantWrite(t, o, 2, in("doc:7#owner@user:ann"))
	wantLeft(t, o, 1, 255, all+"\x93")
	if string(row) != kept {
		t.Errorf("%x\nbut\n%x", kept, row)
	}
}

// DOC.md, Memory: what came in isn't kept: written over behind the call, it shows nowhere.
func TestWhatComesInIsForgotten(t *testing.T) {
	b := made(t, wideText, roomy(), 0)
	l := wideChanges()
	if _, e := b.Write(l, nil); e != api.OK {
		t.Fatal(e)
	}
	was := whole(b)
	scrawl(api.Commit{Changes: l})
	wantWhole(t, b, was)
	row := []byte(bytesOf(b))
	commits, _ := journal.Scan(row)
	o, e := journal.Open(row, roomy())
	if e != api.OK {
		t.Fatal(e)
	}
	was, told := whole(o), wholeCommits(commits)
	scrawlBytes(row)
	wantWhole(t, o, was)
	if now := wholeCommits(commits); now != told {
		t.Errorf("%s\nbut\n%s", told, now)
	}
	c := api.Commit{Kind: api.CommitSchema, Schema: wideSchema()}
	first, _ := journal.Record(c)
	kept := string(first)
	scrawl(c)
	if string(first) != kept {
		t.Errorf("%x\nbut\n%x", kept, first)
	}
}

// DOC.md, Memory: bytes that go out are the caller's, the room behind them too: what is written there shows neither in the book nor in other answers.
func TestBytesAreTheCallers(t *testing.T) {
	b := someBook(t, roomy())
	was := whole(b)
	one, _ := b.Bytes()
	two, _ := b.Bytes()
	kept := string(two)
	scrawlBytes(one)
	wantWhole(t, b, was)
	if string(two) != kept {
		t.Errorf("%x\nbut\n%x", kept, two)
	}
	// Nor does what the book writes behind its own show in the room behind an answer.
	room := bytes.Clone(two[:cap(two)])
	wantWrite(t, b, 28, touch("doc:1#owner@user:ann"))
	if !bytes.Equal(room, two[:cap(two)]) {
		t.Errorf("%x\nbut\n%x", room, two[:cap(two)])
	}
	o := opened(t, kept, roomy())
	all := bytesOf(b)
	left, _ := b.Crash(1<<20, 0)
	was = whole(o)
	scrawlBytes(left)
	wantWhole(t, o, was)
	for _, c := range []api.Commit{written(5, wideChanges()...), {Kind: api.CommitSchema, Schema: wideSchema()}} {
		a, _ := journal.Record(c)
		x, _ := journal.Record(c)
		kept := string(x)
		scrawlBytes(a)
		if string(x) != kept || record(t, c) != kept {
			t.Errorf("%x\nbut\n%x", kept, x)
		}
	}
	wantSafe(t, opened(t, all, roomy()), all)
}

// DOC.md, Memory: commits that are told are the caller's, and have no list in common.
func TestCommitsAreTheCallers(t *testing.T) {
	s := wideText + ` cond e(t: text): t in ["a", "b"]`
	b := records(t, changed(0, s), written(1, wideChanges()...), written(2, wideChanges()...), changed(3, s), changed(4, s))
	one, _ := journal.Scan([]byte(b))
	two, _ := journal.Scan([]byte(b))
	told := wholeCommits(two)
	for i, c := range one {
		rest := wholeCommits(one[i+1:])
		scrawl(c)
		if now := wholeCommits(one[i+1:]); now != rest {
			t.Errorf("what was written into %d shows: %s\nbut\n%s", i, rest, now)
		}
	}
	clear(one[:cap(one)])
	if now := wholeCommits(two); now != told {
		t.Errorf("%s\nbut\n%s", told, now)
	}
	// Within one commit, too, no list stands in the room behind another one.
	for i := range two[1].Changes {
		rest := wholeChanges(two[1].Changes[i+1:])
		x := two[1].Changes[i].Tuple
		scrawl(api.Commit{Changes: []api.Change{{Tuple: x}}})
		if now := wholeChanges(two[1].Changes[i+1:]); now != rest {
			t.Errorf("%s\nbut\n%s", rest, now)
		}
	}
}

// DOC.md, Memory: nil and empty are the same.
func TestNilAndEmpty(t *testing.T) {
	x := fact("d:1#r@u:a")
	x.Args = []api.Arg{}
	wantRecord(t, written(5, api.Change{Kind: api.ChangeInsert, Tuple: x}), record(t, written(5, in("d:1#r@u:a"))))
	wantRecord(t, api.Commit{Rev: 5, Kind: api.CommitWrite, Changes: []api.Change{}, Schema: api.Schema{Types: []api.Type{}}}, record(t, written(5)))
	wantRecord(t, api.Commit{Kind: api.CommitSchema, Schema: api.Schema{Types: []api.Type{}, Conds: []api.Cond{}}, Changes: []api.Change{}}, record(t, changed(0, "")))
	wantScan(t, "", 0)
	b := made(t, smallText, roomy(), 0)
	if rev, e := b.Write([]api.Change{}, []api.Pre{}); rev != 1 || e != api.OK {
		t.Errorf("%d, %d", rev, e)
	}
	wantWrite(t, b, 2)
	wantBytes(t, b, records(t, changed(0, smallText), written(1), written(2)), len(record(t, changed(0, smallText))))
}

// DOC.md, Sameness: the same call answers the same, whatever else runs: each has a book of its own.
func TestSideBySide(t *testing.T) {
	b := []byte(bytesOf(someBook(t, roomy())))
	want := whole(opened(t, string(b), roomy()))
	commits, _ := journal.Scan(b)
	told := wholeCommits(commits)
	var all sync.WaitGroup
	for range 8 {
		all.Go(func() {
			for range 10 {
				o, e := journal.Open(b, roomy())
				l, n := journal.Scan(b)
				if e != api.OK || whole(o) != want || wholeCommits(l) != told || n != len(b) {
					t.Error("an answer differs while others run")
				}
				o.Write([]api.Change{in("doc:7#owner@user:ann")}, nil)
				o.Crash(3, 3)
			}
		})
	}
	all.Wait()
}

// DOC.md, Sameness: no call leaves a goroutine behind.
func TestNoGoroutines(t *testing.T) {
	was := runtime.NumGoroutine()
	for range 20 {
		b := someBook(t, roomy())
		opened(t, bytesOf(b), roomy())
		journal.Scan([]byte(bytesOf(b)))
		b.Crash(5, 5)
	}
	if now := runtime.NumGoroutine(); now > was {
		t.Errorf("%d goroutines, where %d were", now, was)
	}
}
