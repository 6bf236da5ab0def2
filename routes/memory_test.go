package routes_test

import (
	"fmt"
	"runtime"
	"slices"
	"sync"
	"testing"

	"latchkey/api"
	"latchkey/routes"
	"latchkey/schema"
)

// wideEdges have something in the room behind their end.
func wideEdges(t *testing.T) []api.Edge {
	t.Helper()
	l := slices.Grow(edgesOf(t, model(t, exampleText)), 3)
	n := len(l)
	behind := append(l, edge("doc.reader: same doc.owner"), edge("doc.viewer: direct user"))
	return behind[:n]
}

func scrawlEdges(l []api.Edge) {
	for i := range l[:cap(l)] {
		l[:cap(l)][i] = api.Edge{Kind: 9, To: place("scrawl.to"), From: place("scrawl"), All: true}
	}
}

func scrawlPlaces(l []api.Place) {
	for i := range l[:cap(l)] {
		l[:cap(l)][i] = place("scrawl.scrawl")
	}
}

func scrawlTexts(l []string) {
	for i := range l[:cap(l)] {
		l[:cap(l)][i] = "scrawl"
	}
}

// DOC.md, Memory: what comes in isn't written, nor the room behind its end, nor read there.
func TestNothingIsWritten(t *testing.T) {
	l := wideEdges(t)
	was := slices.Clone(l[:cap(l)])
	for _, p := range []string{"doc.reader", "doc.viewer", "doc.owner", "user", "file.x", ""} {
		if got, want := routes.Into(l, place(p)), routes.Into(slices.Clone(l), place(p)); !slices.Equal(got, want) {
			t.Errorf("%s: %q", p, edgeTexts(got))
		}
		if got, want := routes.Out(l, place(p)), routes.Out(slices.Clone(l), place(p)); !slices.Equal(got, want) {
			t.Errorf("%s: %q", p, edgeTexts(got))
		}
	}
	if !slices.Equal(l[:cap(l)], was) {
		t.Errorf("%q", edgeTexts(l[:cap(l)]))
	}
}

// answers tells all that is answered of a model.
func answers(m *schema.Model) string {
	l, e := routes.Of(m)
	all := []any{edgeTexts(l), e}
	for _, p := range m.Places() {
		types, e := routes.Who(m, p)
		all = append(all, types, e, edgeTexts(routes.Into(l, p)), edgeTexts(routes.Out(l, p)))
	}
	for _, s := range subjectsOf(m, "1") {
		places, e := routes.Could(m, s)
		all = append(all, placeTexts(places), e)
	}
	return fmt.Sprint(all...)
}

// DOC.md, Memory: a list that goes out is the caller's, the room behind it too: written over, it shows in no other answer, not in the model and not in what came in.
func TestAnswersAreTheCallers(t *testing.T) {
	m := model(t, exampleText)
	want, text := answers(m), textOf(m)
	l := edgesOf(t, m)
	other := edgesOf(t, m)
	was := slices.Clone(l)
	for _, p := range append(m.Places(), place("user"), place("folder")) {
		// Also where all of the list is wanted.
		for _, from := range [][]api.Edge{l, routes.Into(l, p), routes.Out(l, p)} {
			for _, list := range []func([]api.Edge, api.Place) []api.Edge{routes.Into, routes.Out} {
				first, second := list(from, p), list(from, p)
				keep := slices.Clone(second)
				scrawlEdges(first)
				if !slices.Equal(second, keep) || !slices.Equal(l, was) || !slices.Equal(list(from, p), keep) {
					t.Fatalf("%s: an answer, written over, shows elsewhere", placeText(p))
				}
			}
		}
		if p.Rel != "" {
			scrawlTexts(who(t, m, p))
		}
	}
	for _, s := range subjects(m) {
		scrawlPlaces(could(t, m, s))
	}
	scrawlEdges(l)
	if !slices.Equal(other, was) || answers(m) != want || textOf(m) != text {
		t.Error("an answer, written over, shows elsewhere")
	}
}

// DOC.md, Memory: a list that came in, written over, shows in no answer.
func TestWhatComesInIsForgotten(t *testing.T) {
	l := wideEdges(t)
	into, out := routes.Into(l, place("doc.viewer")), routes.Out(l, place("user"))
	wasInto, wasOut := slices.Clone(into), slices.Clone(out)
	scrawlEdges(l)
	if !slices.Equal(into, wasInto) || !slices.Equal(out, wasOut) || len(into) != 3 || len(out) != 5 {
		t.Errorf("%q, %q", edgeTexts(into), edgeTexts(out))
	}
}

// DOC.md, Sameness: the same call answers the same, again and again, whatever else runs; of one model side by side.
func TestSideBySide(t *testing.T) {
	var models []*schema.Model
	var want []string
	for n := range int64(5) {
		c := &maker{Rand: seeded(1<<30 + n), nots: true}
		models = append(models, c.model())
		want = append(want, answers(models[n]))
	}
	var all sync.WaitGroup
	for range 8 {
		all.Go(func() {
			for i := range 50 {
				if answers(models[i%5]) != want[i%5] {
					t.Error("an answer differs while others run")
				}
			}
		})
	}
	all.Wait()
}

// DOC.md, Sameness: no call leaves a goroutine behind, whether it answers or refuses.
func TestNoGoroutineStays(t *testing.T) {
	was := runtime.NumGoroutine()
	m := model(t, exampleText)
	answers(m)
	for _, s := range noSubjects() {
		routes.Could(m, s)
		routes.Could(nil, s)
	}
	for _, p := range noPlaces() {
		routes.Who(m, p)
		routes.Who(nil, p)
	}
	if now := runtime.NumGoroutine(); now > was {
		t.Errorf("%d goroutines, where %d were", now, was)
	}
}
