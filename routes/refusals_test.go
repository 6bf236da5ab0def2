package routes_test

import (
	"slices"
	"strings"
	"testing"

	"latchkey/api"
	"latchkey/routes"
	"latchkey/schema"
)

// noModels are all models that are none.
func noModels() []*schema.Model {
	var none *schema.Model
	refused, _ := schema.Of(api.Schema{Types: []api.Type{{Name: "Bad"}}})
	return []*schema.Model{nil, none, refused}
}

// P19.1, P19.3, P19.4: every call of no model, whatever else is wrong.
func TestNoModel(t *testing.T) {
	subjects := append(noSubjects(), subject("user:ann"), subject("user:*"), subject("team:a#member"), subject("bot:1"))
	places := append(noPlaces(), place("doc.reader"), place("doc.x"), place("file.x"))
	for _, none := range noModels() {
		if l, e := routes.Of(none); e != api.ErrNil || l != nil {
			t.Errorf("%q, %d", edgeTexts(l), e)
		}
		for _, s := range subjects {
			wantNoPlaces(t, none, s, api.ErrNil)
		}
		for _, p := range places {
			wantNoTypes(t, none, p, api.ErrNil)
		}
	}
}

// noSubjects are neither ones nor sets, whatever the model: all of a type, and no subjects.
func noSubjects() []api.Subject {
	l := []api.Subject{{}, {Id: "a"}, {Rel: "member"}, {Type: "user", Id: "*"}, {Type: "team", Id: "*"}, {Type: "team", Id: "*", Rel: "member"}}
	for _, typ := range []string{"", "User", "or", "user ", "u-ser", strings.Repeat("u", 33)} {
		l = append(l, api.Subject{Type: typ, Id: "ann"}, api.Subject{Type: typ, Id: "*"}, api.Subject{Type: typ, Id: "a", Rel: "member"})
	}
	for _, id := range []string{"", "a b", "a:b", "a#b", "**", "é", "\x00", strings.Repeat("a", 65)} {
		l = append(l, api.Subject{Type: "user", Id: id}, api.Subject{Type: "team", Id: id, Rel: "member"})
	}
	for _, rel := range []string{"Member", "or", "*", "member ", "m-", strings.Repeat("m", 33)} {
		l = append(l, api.Subject{Type: "team", Id: "a", Rel: rel}, api.Subject{Type: "user", Id: "a", Rel: rel})
	}
	return l
}

// P19.3: each way in which a subject can be wrong.
func TestSubjectsRefused(t *testing.T) {
	m := model(t, exampleText+" type or_ type bare")
	for _, s := range noSubjects() {
		wantNoPlaces(t, m, s, api.ErrSubject)
	}
	// Types and relations that the model lacks.
	for _, s := range []string{"bot:1", "users:ann", "use:ann", "office:1", "member:a", "bot:1#member", "bot:*", "team:x#owner", "user:ann#member", "doc:1#member", "team:x#members", "team:x#membe", "team:x#team", "bare:1#x"} {
		wantNoPlaces(t, m, subject(s), api.ErrSubject)
	}
	wantCould(t, m, "bare:1")
	wantCould(t, m, "user:"+strings.Repeat("a", 64), "doc.banned", "doc.both", "doc.owner", "doc.reader", "doc.viewer", "folder.viewer", "team.member")
	for _, s := range noSubjects() {
		wantNoPlaces(t, model(t, ""), s, api.ErrSubject)
	}
	wantNoPlaces(t, model(t, ""), subject("user:ann"), api.ErrSubject)
}

// noPlaces are places of which no model has the type.
func noPlaces() []api.Place {
	var l []api.Place
	for _, typ := range []string{"", "Doc", "or", "*", "doc ", "\x00", strings.Repeat("d", 33), strings.Repeat("d", 1<<20)} {
		l = append(l, api.Place{Type: typ, Rel: "viewer"}, api.Place{Type: typ})
	}
	return l
}

// P19.4: each way in which a place can be wrong.
func TestPlacesRefused(t *testing.T) {
	m := model(t, exampleText)
	for _, p := range append(noPlaces(), place("file.viewer"), place("file.x"), place("docs.viewer"), place("do.viewer"), place("viewer.doc"), place("file"), place("office.at")) {
		wantNoTypes(t, m, p, api.ErrType)
		wantNoTypes(t, model(t, ""), p, api.ErrType)
	}
	for _, rel := range []string{"", "x", "Viewer", "viewe", "viewers", "viewer ", "member", "doc", "or", "*", "\xff", strings.Repeat("v", 1<<20)} {
		wantNoTypes(t, m, api.Place{Type: "doc", Rel: rel}, api.ErrRelation)
		wantNoTypes(t, m, api.Place{Type: "user", Rel: rel}, api.ErrRelation)
	}
}

// P19.3, P19.4: the errors of a row in their order, where several hold at once.
func TestErrorsInOrder(t *testing.T) {
	errs := []api.Errno{api.ErrNil, api.ErrSubject, api.ErrType, api.ErrRelation}
	for wrong := range 1 << len(errs) {
		isWrong := func(e api.Errno) bool { return wrong>>slices.Index(errs, e)&1 == 1 }
		m, s, p := model(t, exampleText), subject("user:ann"), place("doc.viewer")
		if isWrong(api.ErrNil) {
			m = nil
		}
		if isWrong(api.ErrSubject) {
			s.Type = "bot"
		}
		if isWrong(api.ErrType) {
			p.Type = "file"
		}
		if isWrong(api.ErrRelation) {
			p.Rel = "x"
		}
		if first := slices.IndexFunc(errs[:2], isWrong); first >= 0 {
			wantNoPlaces(t, m, s, errs[first])
		} else if len(could(t, m, s)) != 7 {
			t.Error(could(t, m, s))
		}
		order := []api.Errno{api.ErrNil, api.ErrType, api.ErrRelation}
		if first := slices.IndexFunc(order, isWrong); first >= 0 {
			wantNoTypes(t, m, p, order[first])
		} else {
			wantWho(t, m, "doc.viewer", "user")
		}
	}
}
