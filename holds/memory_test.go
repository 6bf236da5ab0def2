package holds_test

import (
	"fmt"
	"runtime"
	"slices"
	"strings"
	"sync"
	"testing"

	"latchkey/api"
	"latchkey/holds"
	"latchkey/store"
)

// listText has a condition over every kind of value, lists too.
const listText = `type user
type doc
  relation a: [user with c, user]
  relation b: [user with c]
  relation r: a not b
cond c(l: texts, n: int, t: text): t in l and n > 1`

func listSnap(t *testing.T) *store.Snap {
	t.Helper()
	return snapOf(t, listText, `doc:1#a@user:ann with c{l: ["x", "y"]}`, "doc:2#a@user:ann with c", "doc:3#a@user:ann", "doc:3#b@user:ann with c{n: 2}", `doc:4#a@user:ann with c{n: 1}`)
}

// wideArgs have something in the room behind the end of each list.
func wideArgs() []api.Arg {
	l := append(make([]api.Arg, 0, 5), with(`l: ["x", "z"], n: 7, t: "x"`)...)
	l[0].Value.Texts = append(l[0].Value.Texts, "behind", "behind")[:2]
	return append(l, whole("z", 1), whole("behind", 2))[:3]
}

// behindToo tells all that stands in arguments, in their lists and in the room behind these.
func behindToo(l []api.Arg) string {
	var b strings.Builder
	for _, a := range l[:cap(l)] {
		fmt.Fprintf(&b, "%q %d %d %q %q\n", a.Name, a.Value.Kind, a.Value.Int, a.Value.Text, a.Value.Texts[:cap(a.Value.Texts)])
	}
	return b.String()
}

// wholeSource tells all tuples of a source.
func wholeSource(src store.Source) string {
	return fmt.Sprint(slices.Collect(src.All()), src.Len())
}

// DOC.md, Memory: what comes in isn't written, nor the room behind its end, nor read there; the source stays as it is.
func TestNothingIsWritten(t *testing.T) {
	src := listSnap(t)
	ctx := wideArgs()
	was, wasSrc := behindToo(ctx), wholeSource(src)
	wantOf(t, src, "user:ann", ctx, "doc:1 a", "doc:1 r", "doc:2 a", "doc:2 r", "doc:3 a", "doc:3 b")
	wantRefused(t, src, subject("user:*"), ctx, api.ErrSubject)
	wantRefused(t, src, subject("user:ann"), ctx[:5], api.ErrArgs)
	wantRefused(t, nil, subject("user:ann"), ctx, api.ErrNil)
	if now := behindToo(ctx); now != was {
		t.Errorf("%s\nbut\n%s", was, now)
	}
	if now := wholeSource(src); now != wasSrc {
		t.Errorf("%s\nbut\n%s", wasSrc, now)
	}
}

// DOC.md, Memory: nothing that came in is kept: written over behind the call, it shows in no answer.
func TestWhatComesInIsForgotten(t *testing.T) {
	src := listSnap(t)
	ctx := wideArgs()
	one := of(t, src, subject("user:ann"), ctx)
	was := grantTexts(one)
	for i := range ctx[:cap(ctx)] {
		x := &ctx[:cap(ctx)][i]
		for k := range x.Value.Texts {
			x.Value.Texts[k] = "scrawl"
		}
		*x = api.Arg{Name: "scrawl"}
	}
	if now := grantTexts(one); !slices.Equal(now, was) {
		t.Errorf("%q, but %q", was, now)
	}
	if now := grantTexts(of(t, src, subject("user:ann"), wideArgs())); !slices.Equal(now, was) {
		t.Errorf("%q, but %q", was, now)
	}
}

// scrawl writes over a list, and over the room behind its end.
func scrawl(l []api.Grant) {
	for i := range l[:cap(l)] {
		l[:cap(l)][i] = api.Grant{Object: api.Object{Type: "scrawl", Id: "scrawl"}, Rel: "scrawl"}
	}
}

// DOC.md, Memory: a list that goes out is the caller's, the room behind it too: it has nothing in common with another list of the same answer, with another answer or with what the source keeps.
func TestAnswersAreTheCallers(t *testing.T) {
	text := "type user type doc relation a: [user] relation b: a relation c: a not [user] relation d: b not c relation e: [user] not c relation f: a not d"
	var l []string
	for i := range 37 {
		l = append(l, fmt.Sprintf("doc:%d#a@user:ann", i), fmt.Sprintf("doc:%d#e@user:ann", i))
		if i%3 == 0 {
			l = append(l, fmt.Sprintf("doc:%d#c@user:ann", i))
		}
	}
	src := snapOf(t, text, l...)
	wasSrc := wholeSource(src)
	one, two := of(t, src, subject("user:ann"), nil), of(t, src, subject("user:ann"), nil)
	was := grantTexts(one)
	first, second := layers(t, src, subject("user:ann"), nil), layers(t, src, subject("user:ann"), nil)
	var each [][]string
	for _, x := range first {
		each = append(each, grantTexts(x))
	}
	if len(each) != 3 || len(each[0]) == 0 || len(each[1]) == 0 || len(each[2]) == 0 {
		t.Fatalf("%q", each)
	}
	scrawl(one)
	for i, x := range first {
		scrawl(x)
		for k := i + 1; k < len(first); k++ {
			if !slices.Equal(grantTexts(first[k]), each[k]) {
				t.Errorf("what was written into layer %d shows in %d", i, k)
			}
		}
	}
	for i := range first[:cap(first)] {
		first[:cap(first)][i] = nil
	}
	for i, x := range second {
		if !slices.Equal(grantTexts(x), each[i]) {
			t.Errorf("what was written shows in another answer's layer %d", i)
		}
	}
	if !slices.Equal(grantTexts(two), was) || !slices.Equal(grantTexts(of(t, src, subject("user:ann"), nil)), was) || wholeSource(src) != wasSrc {
		t.Error("what was written shows elsewhere")
	}
}

// DOC.md, Memory: nil and empty are the same.
func TestNilAndEmpty(t *testing.T) {
	src := example(t)
	for _, ctx := range [][]api.Arg{nil, {}, with("at: 9")[:0]} {
		wantOf(t, src, "user:bob", ctx, "doc:2 reader", "doc:2 viewer", "doc:3 owner", "doc:3 reader", "doc:3 viewer")
	}
}

// DOC.md, Sameness: the same call answers the same, whatever else runs.
func TestSideBySide(t *testing.T) {
	src := laid(t, example(t), facts("team:c#member@user:ann"), facts("doc:2#banned@user:ann"))
	ask := func(s string) string {
		l, e := holds.Of(src, subject(s), with("at: 9"))
		rows, f := holds.Layers(src, subject(s), with("at: 9"))
		yes, g := holds.Has(src, api.Query{Object: grant("doc:2 reader").Object, Rel: "reader", Subject: subject(s)})
		return fmt.Sprint(l, e, rows, f, yes, g)
	}
	who := []string{"user:ann", "user:bob", "team:a#member", "user:*", "folder:f", "folder:f#viewer"}
	var want []string
	for _, s := range who {
		want = append(want, ask(s))
	}
	var all sync.WaitGroup
	for range 8 {
		all.Go(func() {
			for i := range 60 {
				if k := i % len(who); ask(who[k]) != want[k] {
					t.Error("an answer differs while others run")
				}
			}
		})
	}
	all.Wait()
}

// DOC.md, Sameness: a call that comes again answers the same, and leaves no goroutine behind.
func TestSameAgain(t *testing.T) {
	was := runtime.NumGoroutine()
	for n := range int64(20) {
		c := &maker{Rand: seeded(1<<50 + n), nots: true}
		m := c.model()
		src := snapWith(t, m, c.facts(m, 40))
		for _, s := range subjects(m) {
			want := fmt.Sprint(layers(t, src, s, nil), of(t, src, s, nil))
			for range 3 {
				if now := fmt.Sprint(layers(t, src, s, nil), of(t, src, s, nil)); now != want {
					t.Fatalf("%s\nbut\n%s", want, now)
				}
			}
		}
	}
	if now := runtime.NumGoroutine(); now > was {
		t.Errorf("%d goroutines, where %d were", now, was)
	}
}
