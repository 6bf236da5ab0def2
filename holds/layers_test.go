package holds_test

import (
	"fmt"
	"slices"
	"strings"
	"testing"

	"latchkey/api"
	"latchkey/holds"
)

// wantLayers asks for just these layers; the grants of each stand with commas between, as they are told.
func wantLayers(t *testing.T, text string, texts []string, s string, want ...string) {
	t.Helper()
	src := snapOf(t, text, texts...)
	l := layers(t, src, subject(s), nil)
	var got []string
	for _, x := range l {
		got = append(got, strings.Join(grantTexts(x), ","))
	}
	if !slices.Equal(got, want) {
		t.Errorf("%s: %q, want %q", s, got, want)
	}
}

// P16.2: as many lists as there are strata, empty ones too; none, where there is no place.
func TestLayers(t *testing.T) {
	for _, text := range []string{"type user", "type user type doc", "type user cond c(): true"} {
		wantLayers(t, text, nil, "user:ann")
		wantOf(t, snapOf(t, text), "user:ann", nil)
	}
	wantLayers(t, "type user type doc relation r: [user]", nil, "user:ann", "")
	wantLayers(t, "type user type doc relation r: [user]", []string{"doc:1#r@user:ann", "doc:0#r@user:ann"}, "user:ann", "doc:0 r,doc:1 r")
	text := "type user type doc relation c: b not (a not b) relation b: [user:*] not a relation a: [user] relation z: [user:*] relation d: z not c"
	l := []string{"doc:1#a@user:ann", "doc:1#b@user:*", "doc:2#b@user:*", "doc:2#z@user:*", "doc:3#z@user:*"}
	wantLayers(t, text, l, "user:ann", "doc:1 a,doc:2 z,doc:3 z", "doc:2 b", "doc:2 c", "doc:3 d")
	wantLayers(t, text, l, "user:bob", "doc:2 z,doc:3 z", "doc:1 b,doc:2 b", "doc:1 c,doc:2 c", "doc:3 d")
	wantLayers(t, text, l, "doc:1", "", "", "", "")
	wantLayers(t, text, l, "doc:7#c", "", "", "doc:7 c", "")
	wantLayers(t, text, l, "doc:7#d", "", "", "", "doc:7 d")
	wantLayers(t, text, nil, "user:ann", "", "", "", "")
	// Where something lets in on each of them, whatever is below.
	text = "type user type doc relation a: [user] relation b: [user] not a relation c: [user] not b"
	wantLayers(t, text, []string{"doc:1#c@user:ann"}, "user:ann", "", "", "doc:1 c")
	wantLayers(t, text, []string{"doc:1#b@user:ann"}, "user:ann", "", "doc:1 b", "")
	wantLayers(t, text, []string{"doc:1#b@user:ann", "doc:1#c@user:ann", "doc:1#a@user:ann"}, "user:ann", "doc:1 a", "", "doc:1 c")
}

// orderText has names whose order by bytes isn't that of the schema, nor that of grants' texts, nor that of numbers.
const orderText = `type zed type doc1
  relation b: a relation a1: a relation ab: a relation a: [zed, zed:*] relation a_: a not b
type doc
  relation z: y relation y: [zed] relation yy: y`

// P16.1, P16.2: grants rise by their objects' types, by their ids, and by their relations, byte by byte.
func TestOrders(t *testing.T) {
	ids := []string{"1", "10", "1.5", "2", "A", "a", "~", "=", "+", "-", "|", "aa", "a-a", "a.a"}
	var l []string
	for i := range ids {
		l = append(l, "doc1:"+ids[len(ids)-1-i]+"#a@zed:1", "doc:"+ids[(5*i)%len(ids)]+"#y@zed:1")
	}
	src := snapOf(t, orderText, l...)
	got := of(t, src, api.Subject{Type: "zed", Id: "1"}, nil)
	var want []string
	for _, id := range []string{"+", "-", "1", "1.5", "10", "2", "=", "A", "a", "a-a", "a.a", "aa", "|", "~"} {
		want = append(want, "doc:"+id+" y", "doc:"+id+" yy", "doc:"+id+" z")
	}
	for _, id := range []string{"+", "-", "1", "1.5", "10", "2", "=", "A", "a", "a-a", "a.a", "aa", "|", "~"} {
		want = append(want, "doc1:"+id+" a", "doc1:"+id+" a1", "doc1:"+id+" ab", "doc1:"+id+" b")
	}
	if !slices.Equal(grantTexts(got), want) {
		t.Errorf("%q, want %q", grantTexts(got), want)
	}
	wantGrants(t, src, api.Subject{Type: "zed", Id: "1"}, nil, got)
}

// P16.3: Has of what is among the grants, and of what isn't: another object, another type, another relation, another subject.
func TestHas(t *testing.T) {
	src := example(t)
	for q, want := range map[string]bool{
		"user:ann doc:1 reader": true, "user:ann doc:1 viewer": true, "user:ann doc:1 owner": false, "user:ann doc:1 home": false, "user:ann doc:1 banned": false,
		"user:ann doc:2 reader": false, "user:ann doc:2 viewer": true, "user:ann doc:2 banned": true, "user:ann doc:3 viewer": false,
		"user:ann team:a member": true, "user:ann team:c member": false, "user:ann folder:f viewer": true, "user:ann folder:a viewer": false,
		"user:bob doc:2 reader": true, "user:bob doc:3 owner": true, "user:bob doc:2 owner": false, "user:bob doc:1 reader": false,
		"team:a doc:1 reader": false, "team:a#member doc:1 reader": true, "team:a#member doc:2 reader": false, "team:a#member team:a member": true, "team:c#member team:c member": true, "team:c#member team:a member": false,
		"folder:f doc:1 home": true, "folder:f doc:1 viewer": false, "folder:f#viewer doc:1 viewer": true, "folder:f#viewer doc:1 reader": true, "folder:f#viewer team:a member": false,
		"doc:1#home doc:1 home": true, "doc:1#reader doc:1 reader": true, "doc:1#reader doc:1 viewer": false, "doc:9#banned doc:9 banned": true, "doc:9#banned doc:8 banned": false,
	} {
		who, g, _ := strings.Cut(q, " ")
		if got := has(t, src, subject(who), nil, grant(g)); got != want {
			t.Errorf("%s: %v", q, got)
		}
	}
	// By the arguments.
	for args, want := range map[string]bool{"at: 9": true, "at: 8": false, "at: 9.0": false, "by: 9": false} {
		if got := has(t, src, subject("user:bob"), with(args), grant("doc:2 owner")); got != want {
			t.Errorf("%s: %v", args, got)
		}
	}
}

// P16.3: a question's other fields are all that is asked of it, also of an object that stands in no tuple.
func TestHasOfNothing(t *testing.T) {
	src := snapOf(t, "type user type doc relation r: [user]")
	for i, s := range []string{"user:ann", "doc:1", "doc:2#r"} {
		yes, e := holds.Has(src, api.Query{Object: api.Object{Type: "doc", Id: "1"}, Rel: "r", Subject: subject(s), Budget: i})
		if yes || e != api.OK {
			t.Errorf("%s: %v, %d", s, yes, e)
		}
	}
	if yes, e := holds.Has(src, api.Query{Object: api.Object{Type: "doc", Id: "1"}, Rel: "r", Subject: subject("doc:1#r")}); !yes || e != api.OK {
		t.Errorf("%v, %d", yes, e)
	}
	if _, e := holds.Has(snapOf(t, "type user"), api.Query{Object: api.Object{Type: "user", Id: fmt.Sprint(1)}, Subject: subject("user:ann")}); e != api.ErrRelation {
		t.Errorf("%d", e)
	}
}
