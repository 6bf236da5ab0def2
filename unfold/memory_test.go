package unfold_test

import (
	"fmt"
	"runtime"
	"slices"
	"strings"
	"sync"
	"testing"

	"latchkey/api"
	"latchkey/store"
	"latchkey/unfold"
)

// listText has a condition over every kind of value, lists too, and a relation that is unfolded again and again.
const listText = `type user
type team
  relation member: [user with c, user]
type doc
  relation up: [team with c, team]
  relation a: member from up
  relation r: (a or a) not (member from up)
cond c(l: texts, n: int, t: text): t in l and n > 1`

func listSnap(t *testing.T) *store.Snap {
	t.Helper()
	return snapOf(t, listText, `team:a#member@user:ann with c{l: ["x", "y"]}`, "team:a#member@user:bob with c", `team:a#member@user:cat with c{n: 1}`, "team:b#member@user:dan", "doc:1#up@team:a with c", "doc:1#up@team:b")
}

// listLines are what doc:1 r unfolds to there with wideArgs, three deep.
func listLines() []string {
	from := []string{"from doc:1 up 2", "this team:a member user:ann user:bob", "this team:b member user:dan"}
	a := append([]string{"same doc:1 a 1"}, from...)
	return slices.Concat([]string{"not doc:1 r 2", "or doc:1 r 2"}, a, a, from)
}

// wideArgs have something in the room behind the end of each list.
func wideArgs() []api.Arg {
	l := append(make([]api.Arg, 0, 5), with(`l: ["x", "z"], n: 7, t: "x"`)...)
	l[0].Value.Texts = append(l[0].Value.Texts, "behind", "behind")[:2]
	return append(l, whole("z", 1), whole("behind", 2))[:3]
}

// argsBehind tells all that stands in arguments, in their lists and in the room behind these.
func argsBehind(l []api.Arg) string {
	var b strings.Builder
	for _, a := range l[:cap(l)] {
		fmt.Fprintf(&b, "%q %d %d %q %q\n", a.Name, a.Value.Kind, a.Value.Int, a.Value.Text, a.Value.Texts[:cap(a.Value.Texts)])
	}
	return b.String()
}

// scrawlArgs writes over arguments, their lists and the room behind these.
func scrawlArgs(l []api.Arg) {
	for i := range l[:cap(l)] {
		x := &l[:cap(l)][i]
		texts := x.Value.Texts[:cap(x.Value.Texts)]
		for k := range texts {
			texts[k] = "scrawl"
		}
		*x = api.Arg{Name: "scrawl"}
	}
}

// branchesBehind tells all that stands in branches, in their subjects and in the room behind these.
func branchesBehind(l []api.Branch) string {
	var b strings.Builder
	for _, x := range l[:cap(l)] {
		fmt.Fprintf(&b, "%d %q %v %d %q\n", x.Kind, x.Place, x.Cut, x.Kids, x.Subjects[:cap(x.Subjects)])
	}
	return b.String()
}

// scrawlSubjects writes over subjects and the room behind them.
func scrawlSubjects(l []api.Subject) {
	for i := range l[:cap(l)] {
		l[:cap(l)][i] = api.Subject{Type: "scrawl", Id: "*", Rel: "scrawl"}
	}
}

// wholeSource tells all tuples of a source.
func wholeSource(src store.Source) string {
	return fmt.Sprint(slices.Collect(src.All()), src.Len())
}

// DOC.md, Memory: what comes in isn't written, nor the room behind its end, nor read there; the source stays as it is.
func TestNothingIsWritten(t *testing.T) {
	src := listSnap(t)
	ctx := wideArgs()
	was, wasSrc := argsBehind(ctx), wholeSource(src)
	l := wantOf(t, src, "doc:1 r", ctx, 3, listLines()...)
	wantOf(t, src, "doc:1 r", ctx, 1, "not doc:1 r 2", "or doc:1 r 2", "same doc:1 a cut", "same doc:1 a cut", "from doc:1 up cut")
	wantRefused(t, src, grant("doc:1 r"), ctx[:5], 3, api.ErrArgs)
	wantRefused(t, src, grant("doc:1 r"), ctx, 17, api.ErrArg)
	wantRefused(t, nil, grant("doc:1 r"), ctx, 3, api.ErrNil)
	if now := argsBehind(ctx); now != was {
		t.Errorf("%s\nbut\n%s", was, now)
	}
	if now := wholeSource(src); now != wasSrc {
		t.Errorf("%s\nbut\n%s", wasSrc, now)
	}
	// Of branches, with something behind the end of each list.
	l = append(l, l[0], api.Branch{Cut: true})[:len(l)]
	for i := range l {
		if l[i].Kind == api.NodeThis {
			l[i].Subjects = append(l[i].Subjects, api.Subject{}, subject("user:a"))[:len(l[i].Subjects)]
		} else {
			l[i].Subjects = subjectsOf("user:a")[:0]
		}
	}
	was = branchesBehind(l)
	wantSubjects(t, l)
	wantSubjects(t, l[1:10], "user:ann", "user:bob", "user:dan")
	wantNone(t, l[:len(l)+1], api.ErrTree)
	wantNone(t, l[:3], api.ErrTree)
	unfold.Whole(l)
	unfold.Whole(l[:len(l)+2])
	if now := branchesBehind(l); now != was {
		t.Errorf("%s\nbut\n%s", was, now)
	}
}

// DOC.md, Memory: a list that goes out is the caller's, the room behind it too: written over, it shows in no other list of that answer, in no other answer and not in the source.
func TestAnswersAreTheCallers(t *testing.T) {
	src := listSnap(t)
	over := laid(t, src, facts("team:b#member@user:eve"), facts("team:b#member@user:eve", "team:b#member@user:zoe")[1:])
	for _, from := range []store.Source{src, over} {
		wasSrc := wholeSource(from)
		l, other := unfolding(t, from, grant("doc:1 r"), wideArgs(), 3), unfolding(t, from, grant("doc:1 r"), wideArgs(), 3)
		want := linesOf(other)
		for i := range l {
			scrawlSubjects(l[i].Subjects)
			for k := i + 1; k < len(l); k++ {
				if lineOf(l[k]) != want[k] {
					t.Fatalf("%q is %q, with %d written over", want[k], lineOf(l[k]), i)
				}
			}
		}
		for i := range l[:cap(l)] {
			l[:cap(l)][i] = api.Branch{Kind: 9}
		}
		if !slices.Equal(linesOf(other), want) || !slices.Equal(linesOf(unfolding(t, from, grant("doc:1 r"), wideArgs(), 3)), want) || wholeSource(from) != wasSrc {
			t.Error("an answer, written over, shows elsewhere")
		}
		named, again := subjectsIn(t, other[1:10]), subjectsIn(t, other[1:10])
		scrawlSubjects(named)
		if !slices.Equal(linesOf(other), want) || slices.Equal(named, again) || !slices.Equal(subjectsIn(t, other[1:10]), again) {
			t.Error("subjects, written over, show elsewhere")
		}
	}
	// A tree that is one branch.
	one := this("user:a", "user:b")
	scrawlSubjects(subjectsIn(t, one))
	wantSubjects(t, one, "user:a", "user:b")
	scrawlSubjects(subjectsIn(t, same(one)))
	wantSubjects(t, one, "user:a", "user:b")
}

func subjectsIn(t *testing.T, l []api.Branch) []api.Subject {
	t.Helper()
	got, e := unfold.Subjects(l)
	if e != api.OK {
		t.Fatalf("Subjects: %d", e)
	}
	return got
}

// DOC.md, Memory: nothing that came in is kept: written over, it shows in no answer.
func TestWhatComesInIsForgotten(t *testing.T) {
	src := listSnap(t)
	ctx := wideArgs()
	l := unfolding(t, src, grant("doc:1 r"), ctx, 3)
	scrawlArgs(ctx)
	if !slices.Equal(linesOf(l), listLines()) {
		t.Errorf("%q", linesOf(l))
	}
	named := subjectsIn(t, l[1:10])
	for i := range l {
		scrawlSubjects(l[i].Subjects)
	}
	if got := strings.Join(textsOf(named), " "); got != "user:ann user:bob user:dan" {
		t.Error(got)
	}
	wantOf(t, src, "doc:1 r", wideArgs(), 3, listLines()...)
}

// DOC.md, Memory: nil and empty are the same.
func TestNilAndEmpty(t *testing.T) {
	src := listSnap(t)
	for _, ctx := range [][]api.Arg{nil, {}, wideArgs()[:0]} {
		wantOf(t, src, "doc:1 a", ctx, 2, "from doc:1 up 1", "this team:b member user:dan")
	}
	wantNone(t, []api.Branch{}, api.ErrTree)
	wantNone(t, []api.Branch{{Kind: api.NodeThis}}[:0], api.ErrTree)
	for _, subjects := range [][]api.Subject{nil, {}, subjectsOf("user:a")[:0]} {
		none := []api.Branch{{Kind: api.NodeThis, Subjects: subjects}}
		wantSubjects(t, none)
		wantSubjects(t, or(none, this("user:b")), "user:b")
	}
}

// DOC.md, Sameness: the same call answers the same, whatever else runs: of one source and of the same branches, side by side.
func TestSideBySide(t *testing.T) {
	src := laid(t, example(t), facts("team:c#member@user:ann"), facts("doc:1#banned@user:bob"))
	goals := grantsOf(src)
	shared := unfolding(t, src, grant("doc:1 reader"), nil, 3)
	run := func(deep int) string {
		var l []any
		for _, g := range goals {
			branches, e := unfold.Of(src, g.Object, g.Rel, nil, deep)
			subjects, f := unfold.Subjects(branches)
			l = append(l, linesOf(branches), e, textsOf(subjects), f, unfold.Whole(branches))
		}
		subjects, e := unfold.Subjects(shared)
		return fmt.Sprint(append(l, textsOf(subjects), e)...)
	}
	var want []string
	for deep := range 5 {
		want = append(want, run(deep))
	}
	var all sync.WaitGroup
	for range 8 {
		all.Go(func() {
			for i := range 30 {
				if deep := i % 5; run(deep) != want[deep] {
					t.Error("an answer differs while others run")
				}
			}
		})
	}
	all.Wait()
}

// DOC.md, Sameness: no call leaves a goroutine behind, whether it answers or refuses.
func TestNoGoroutineStays(t *testing.T) {
	was := runtime.NumGoroutine()
	src := laid(t, tooMuch(t), facts("doc:1#home@folder:f", "folder:f#owner@user:a"), nil)
	for _, g := range grantsOf(src) {
		for deep := range 18 {
			l, _ := unfold.Of(src, g.Object, g.Rel, nil, deep)
			unfold.Subjects(l)
		}
	}
	if now := runtime.NumGoroutine(); now > was {
		t.Errorf("%d goroutines, where %d were", now, was)
	}
}
