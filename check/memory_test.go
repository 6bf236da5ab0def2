package check_test

import (
	"fmt"
	"runtime"
	"slices"
	"strings"
	"sync"
	"testing"

	"latchkey/api"
	"latchkey/check"
	"latchkey/store"
)

// listText has a condition over every kind of value, lists too.
const listText = `type user
type doc
  relation a: [user with c, user]
  relation b: [user with c]
  relation r: a not b
cond c(l: texts, n: int, t: text): t in l and n > 1`

func listSnap(t *testing.T) *store.Snap {
	t.Helper()
	return snapOf(t, listText, `doc:1#a@user:ann with c{l: ["x", "y"]}`, "doc:2#a@user:ann with c", "doc:3#a@user:ann", "doc:3#b@user:ann with c{n: 2}", `doc:4#a@user:ann with c{n: 1}`)
}

// listGrants are what user:ann has there with wideArgs.
func listGrants() []string {
	return []string{"doc:1 a", "doc:1 r", "doc:2 a", "doc:2 r", "doc:3 a", "doc:3 b"}
}

// wideArgs have something in the room behind the end of each list.
func wideArgs() []api.Arg {
	l := append(make([]api.Arg, 0, 5), with(`l: ["x", "z"], n: 7, t: "x"`)...)
	l[0].Value.Texts = append(l[0].Value.Texts, "behind", "behind")[:2]
	return append(l, whole("z", 1), whole("behind", 2))[:3]
}

// behindToo tells all that stands in arguments, in their lists and in the room behind these.
func behindToo(l []api.Arg) string {
	var b strings.Builder
	for _, a := range l[:cap(l)] {
		fmt.Fprintf(&b, "%q %d %d %q %q\n", a.Name, a.Value.Kind, a.Value.Int, a.Value.Text, a.Value.Texts[:cap(a.Value.Texts)])
	}
	return b.String()
}

// scrawl writes over arguments, their lists and the room behind these.
func scrawl(l []api.Arg) {
	for i := range l[:cap(l)] {
		x := &l[:cap(l)][i]
		texts := x.Value.Texts[:cap(x.Value.Texts)]
		for k := range texts {
			texts[k] = "scrawl"
		}
		*x = api.Arg{Name: "scrawl"}
	}
}

// wholeSource tells all tuples of a source.
func wholeSource(src store.Source) string {
	return fmt.Sprint(slices.Collect(src.All()), src.Len())
}

// wantHeld asks an Asker for all that can be asked for.
func wantHeld(t *testing.T, src store.Source, a *check.Asker, want ...string) {
	t.Helper()
	for _, g := range grantsOf(src) {
		v, e := a.Ask(g.Object, g.Rel, most(src))
		if v.Held != slices.Contains(want, grantText(g)) || e != api.OK {
			t.Errorf("%s: %+v, %d", grantText(g), v, e)
		}
	}
}

// DOC.md, Memory: what comes in isn't written, nor the room behind its end, nor read there; the source stays as it is.
func TestNothingIsWritten(t *testing.T) {
	src := listSnap(t)
	ctx := wideArgs()
	was, wasSrc := behindToo(ctx), wholeSource(src)
	wantOf(t, src, "user:ann", ctx, listGrants()...)
	a := asker(t, src, subject("user:ann"), ctx)
	wantHeld(t, src, a, listGrants()...)
	wantRefused(t, src, query(src, grant("doc:1 r"), subject("user:*"), ctx), api.ErrSubject)
	wantRefused(t, src, query(src, grant("doc:1 r"), subject("user:ann"), ctx[:5]), api.ErrArgs)
	wantRefused(t, nil, query(src, grant("doc:1 r"), subject("user:ann"), ctx), api.ErrNil)
	if now := behindToo(ctx); now != was {
		t.Errorf("%s\nbut\n%s", was, now)
	}
	if now := wholeSource(src); now != wasSrc {
		t.Errorf("%s\nbut\n%s", wasSrc, now)
	}
}

// DOC.md, Memory: nothing that came in is kept: written over behind New, it shows in no answer of the Asker's, whether that was asked ahead or not.
func TestWhatComesInIsForgotten(t *testing.T) {
	src := listSnap(t)
	ctx := wideArgs()
	a, b := asker(t, src, subject("user:ann"), ctx), asker(t, src, subject("user:ann"), ctx)
	wantHeld(t, src, a, listGrants()...)
	scrawl(ctx)
	wantHeld(t, src, a, listGrants()...)
	wantHeld(t, src, b, listGrants()...)
	wantOf(t, src, "user:ann", wideArgs(), listGrants()...)
}

// DOC.md, Memory: nil and empty are the same.
func TestNilAndEmpty(t *testing.T) {
	src := listSnap(t)
	for _, ctx := range [][]api.Arg{nil, {}, wideArgs()[:0]} {
		wantOf(t, src, "user:ann", ctx, "doc:3 a", "doc:3 r")
		wantHeld(t, src, asker(t, src, subject("user:ann"), ctx), "doc:3 a", "doc:3 r")
	}
}

// DOC.md, Sameness: the same call answers the same, whatever else runs: questions of one source, and Askers of it, side by side.
func TestSideBySide(t *testing.T) {
	src := laid(t, example(t), facts("team:c#member@user:ann"), facts("doc:2#blocked@user:ann"))
	goals := grantsOf(src)
	run := func(s string) string {
		var l []any
		a, _ := check.New(src, subject(s), nil)
		for _, g := range goals {
			v, e := check.Ask(src, query(src, g, subject(s), nil))
			w, f := a.Ask(g.Object, g.Rel, 9)
			l = append(l, v, e, w, f)
		}
		return fmt.Sprint(l...)
	}
	who := []string{"user:ann", "user:bob", "team:a#member", "user:*", "doc:1", "doc:1#viewer"}
	var want []string
	for _, s := range who {
		want = append(want, run(s))
	}
	var all sync.WaitGroup
	for range 8 {
		all.Go(func() {
			for i := range 30 {
				if k := i % len(who); run(who[k]) != want[k] {
					t.Error("an answer differs while others run")
				}
			}
		})
	}
	all.Wait()
}

// DOC.md, Sameness: no call leaves a goroutine behind, whether its budget is enough or not.
func TestNoGoroutineStays(t *testing.T) {
	was := runtime.NumGoroutine()
	for _, src := range worlds(t) {
		for _, s := range whoIs(src) {
			a := asker(t, src, s, nil)
			for _, g := range grantsOf(src) {
				q := query(src, g, s, nil)
				for _, q.Budget = range []int{1, 2, 5, most(src)} {
					check.Ask(src, q)
					a.Ask(g.Object, g.Rel, q.Budget)
				}
			}
		}
	}
	if now := runtime.NumGoroutine(); now > was {
		t.Errorf("%d goroutines, where %d were", now, was)
	}
}
