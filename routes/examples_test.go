package routes_test

import (
	"slices"
	"testing"

	"latchkey/api"
	"latchkey/routes"
)

// exampleEdges are those of example 1.
func exampleEdges() []string {
	return []string{
		"doc.banned: direct user exact",
		"doc.banned: set team.member exact",
		"doc.both: same doc.owner exact",
		"doc.both: same doc.viewer",
		"doc.home: direct folder exact",
		"doc.owner: direct user exact",
		"doc.reader: same doc.viewer",
		"doc.viewer: direct user all exact",
		"doc.viewer: same doc.owner exact",
		"doc.viewer: from folder.viewer way home exact",
		"folder.viewer: direct user exact",
		"folder.viewer: set team.member exact",
		"team.member: direct user exact",
		"team.member: set team.member exact",
	}
}

// P19.1: example 1.
func TestExampleEdges(t *testing.T) {
	wantEdges(t, exampleText, exampleEdges()...)
}

// P19.3: example 2.
func TestExampleCould(t *testing.T) {
	m := model(t, exampleText)
	wantCould(t, m, "user:ann", "doc.banned", "doc.both", "doc.owner", "doc.reader", "doc.viewer", "folder.viewer", "team.member")
	wantCould(t, m, "team:x#member", "doc.banned", "doc.both", "doc.reader", "doc.viewer", "folder.viewer", "team.member")
	wantCould(t, m, "folder:f", "doc.home")
	wantCould(t, m, "folder:f#viewer", "doc.both", "doc.reader", "doc.viewer", "folder.viewer")
	wantCould(t, m, "doc:1")
	wantNoPlaces(t, m, subject("user:*"), api.ErrSubject)
	wantNoPlaces(t, m, subject("bot:1"), api.ErrSubject)
}

// P19.4: example 3.
func TestExampleWho(t *testing.T) {
	m := model(t, exampleText)
	wantWho(t, m, "doc.reader", "user")
	wantWho(t, m, "doc.home", "folder")
	wantNoTypes(t, m, place("file.x"), api.ErrType)
	wantNoTypes(t, m, place("doc.x"), api.ErrRelation)
}

// P19.2: example 4.
func TestExampleLists(t *testing.T) {
	l := edgesOf(t, model(t, exampleText))
	if got := edgeTexts(routes.Into(l, place("doc.reader"))); !slices.Equal(got, []string{"doc.reader: same doc.viewer"}) {
		t.Errorf("%q", got)
	}
	if got := edgeTexts(routes.Out(l, place("doc.owner"))); !slices.Equal(got, []string{"doc.both: same doc.owner exact", "doc.viewer: same doc.owner exact"}) {
		t.Errorf("%q", got)
	}
	if got := edgeTexts(routes.Out(l, place("user"))); !slices.Equal(got, []string{"doc.banned: direct user exact", "doc.owner: direct user exact", "doc.viewer: direct user all exact", "folder.viewer: direct user exact", "team.member: direct user exact"}) {
		t.Errorf("%q", got)
	}
}
