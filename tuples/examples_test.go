package tuples_test

import (
	"slices"
	"testing"

	"latchkey/api"
	"latchkey/tuples"
)

// P10.1: example 1.
func TestExampleCheck(t *testing.T) {
	m := model(t, office)
	for s, want := range map[string]api.Errno{
		`doc:1#owner@user:ann`:                            api.OK,
		`doc:1#viewer@user:*`:                             api.OK,
		`doc:1#viewer@user:ann`:                           api.ErrAllowed,
		`doc:1#viewer@user:ann with office`:               api.OK,
		`doc:1#viewer@user:ann with office{at: 9}`:        api.OK,
		`doc:1#viewer@user:ann with office{at: "9"}`:      api.ErrKind,
		`doc:1#viewer@user:ann with office{to: 1}`:        api.ErrParam,
		`doc:1#owner@user:*`:                              api.ErrAllowed,
		`doc:1#owner@team:x#member`:                       api.ErrAllowed,
		`file:1#owner@user:ann`:                           api.ErrType,
		`doc:1#reader@user:ann`:                           api.ErrRelation,
		`doc:1#owner@bot:1`:                               api.ErrSubject,
		`doc:1#viewer@user:x#member`:                      api.ErrSubject,
		`doc:1#viewer@team:x#owner`:                       api.ErrSubject,
		`team:x#member@team:x#member`:                     api.OK,
		`doc:1#viewer@team:x#member with office{on: "a"}`: api.OK,
	} {
		wantFit(t, m, fact(s), want)
	}
	owner := fact("doc:1#owner@user:ann")
	wantFit(t, m, under(fact("doc:1#viewer@user:ann with office"), numbered(17)...), api.ErrArgs)
	wantFit(t, m, under(owner, arg("at", whole(9))), api.ErrArgs)
	owner.Object.Id = "*"
	wantFit(t, m, owner, api.ErrId)
}

// P10.4: example 2.
func TestExampleTexts(t *testing.T) {
	set := api.Tuple{Object: api.Object{Type: "doc", Id: "1"}, Rel: "viewer", Subject: api.Subject{Type: "team", Id: "x", Rel: "member"}, Cond: "office"}
	all := api.Tuple{Object: api.Object{Type: "doc", Id: "1"}, Rel: "viewer", Subject: api.Subject{Type: "user", Id: "*"}, Cond: "office"}
	one := api.Tuple{Object: api.Object{Type: "doc", Id: "1"}, Rel: "owner", Subject: api.Subject{Type: "user", Id: "ann"}}
	wantText(t, under(set, arg("at", whole(9)), arg("on", text("mon"))), `doc:1#viewer@team:x#member with office{at: 9, on: "mon"}`)
	wantText(t, all, `doc:1#viewer@user:* with office`)
	wantText(t, one, `doc:1#owner@user:ann`)
	head := "doc:1#viewer@team:x#member with office"
	for _, s := range []string{head + `{at:9}`, head + `{}`, head + `{on: "mon", at: 9}`, head + `{at: 9} `, "doc:1#owner", "doc:1#owner@user", "doc:1@user:ann", "doc:1#owner@user:ann{at: 9}", ""} {
		wantUnread(t, s, api.ErrTuple)
	}
}

// P10.2, P10.3: example 3.
func TestExampleOrders(t *testing.T) {
	a, b := fact("doc:1#a@u:z"), fact("doc:1#b@u:a")
	if got := tuples.Compare(a, b); got != -1 {
		t.Error(got)
	}
	if got := tuples.Backward(a, b); got != 1 {
		t.Error(got)
	}
	c := fact("doc:1#a@u:z with c")
	if tuples.Compare(a, c) != 0 || tuples.Backward(a, c) != 0 || tuples.Same(a, c) || !tuples.Same(c, c) {
		t.Error("one key with unlike Conds")
	}
}

// P10.5: example 4.
func TestExampleBytes(t *testing.T) {
	b := []byte{1, 0x64, 1, 0x31, 1, 0x72, 1, 0x75, 1, 0x61, 0, 0, 0}
	wantBytes(t, fact("d:1#r@u:a"), b)
	wantUndecoded(t, append(slices.Clone(b), 0))
	wantUndecoded(t, append(slices.Clone(b[:12]), 1))
	wantUndecoded(t, nil)
}

// P10.6: example 5.
func TestExampleFilters(t *testing.T) {
	f := api.Filter{Type: "doc", Subject: api.Subject{Id: "ann"}}
	for s, want := range map[string]bool{"doc:1#owner@user:ann": true, "doc:1#owner@bot:ann": true, "doc:1#owner@user:bob": false} {
		if got := tuples.Lets(f, fact(s)); got != want {
			t.Errorf("%s: %v", s, got)
		}
	}
	ann := fact("doc:1#owner@user:ann")
	if tuples.Lets(api.Filter{Cond: "office"}, ann) || !tuples.Lets(api.Filter{}, ann) {
		t.Error("a Cond, and nothing")
	}
}
