package tuples_test

import (
	"math"
	"testing"

	"latchkey/api"
	"latchkey/schema"
)

// wide is a schema with all kinds of allowances, a type without relations, relations that allow nothing, and one name for unlike things.
const wide = `type user
type bare
type team
  relation member: [user, team#member]
  relation lead: member
type doc
  relation parent: [doc, team]
  relation none: lead from parent
  relation doc: [user, user:*, team#member, team#lead with all, user with all, user:* with empty, bare]
  relation both: [user with all] not none
  relation user: [doc#user, doc#none with empty]
cond all(b: bool, i: int, l: texts, r: real, t: text): b or i > 0 or l == ["a"] or r > 0.0 or t == ""
cond empty(): true
cond user(n: int): n == 1`

// P10.1: what allowances let in: each kind of subject with each condition, and no other.
func TestAllowances(t *testing.T) {
	m := model(t, wide)
	for s, want := range map[string]api.Errno{
		`doc:1#doc@user:a`:                   api.OK,
		`doc:1#doc@user:a with all`:          api.OK,
		`doc:1#doc@user:a with empty`:        api.ErrAllowed,
		`doc:1#doc@user:a with user`:         api.ErrAllowed,
		`doc:1#doc@user:a with nowhere`:      api.ErrAllowed,
		`doc:1#doc@user:*`:                   api.OK,
		`doc:1#doc@user:* with all`:          api.ErrAllowed,
		`doc:1#doc@user:* with empty`:        api.OK,
		`doc:1#doc@team:a#member`:            api.OK,
		`doc:1#doc@team:a#member with all`:   api.ErrAllowed,
		`doc:1#doc@team:a#lead`:              api.ErrAllowed,
		`doc:1#doc@team:a#lead with all`:     api.OK,
		`doc:1#doc@team:a`:                   api.ErrAllowed,
		`doc:1#doc@team:*`:                   api.ErrAllowed,
		`doc:1#doc@doc:1#doc`:                api.ErrAllowed,
		`doc:1#doc@bare:a`:                   api.OK,
		`doc:1#doc@bare:*`:                   api.ErrAllowed,
		`doc:1#doc@bare:a#member`:            api.ErrSubject,
		`doc:1#parent@doc:1`:                 api.OK,
		`doc:1#parent@team:a`:                api.OK,
		`doc:1#parent@team:a#member`:         api.ErrAllowed,
		`doc:1#parent@bare:a`:                api.ErrAllowed,
		`doc:1#none@user:a`:                  api.ErrAllowed,
		`doc:1#none@team:a#lead`:             api.ErrAllowed,
		`doc:1#none@team:a#leads`:            api.ErrSubject,
		`team:1#lead@user:a`:                 api.ErrAllowed,
		`team:1#lead@lead:a`:                 api.ErrSubject,
		`doc:1#both@user:a`:                  api.ErrAllowed,
		`doc:1#both@user:a with all`:         api.OK,
		`doc:1#user@doc:2#user`:              api.OK,
		`doc:1#user@doc:2#none`:              api.ErrAllowed,
		`doc:1#user@doc:2#none with empty`:   api.OK,
		`doc:1#user@user:2`:                  api.ErrAllowed,
		`doc:1#user@member:2`:                api.ErrSubject,
		`doc:1#user@all:2`:                   api.ErrSubject,
		`doc:1#user@all:*`:                   api.ErrSubject,
		`bare:1#member@user:a`:               api.ErrRelation,
		`user:1#user@user:a`:                 api.ErrRelation,
		`team:1#doc@user:a`:                  api.ErrRelation,
		`all:1#doc@user:a`:                   api.ErrType,
		`member:1#member@user:a`:             api.ErrType,
		`doc:1#doc@user:a with all{i: 1}`:    api.OK,
		`doc:1#doc@user:* with empty{i: 1}`:  api.ErrParam,
		`doc:1#doc@user:a with all{n: 1}`:    api.ErrParam,
		`doc:1#both@user:a with all{r: 1}`:   api.ErrKind,
		`doc:1#both@user:a with all{r: 1.0}`: api.OK,
	} {
		wantFit(t, m, fact(s), want)
	}
}

// P10.1: each kind of argument beside each kind of parameter; nan, -0.0 and the greatest numbers too.
func TestArgumentsFit(t *testing.T) {
	m := model(t, wide)
	x := fact("doc:1#doc@user:a with all")
	held := map[string][]api.Value{
		"b": {boolean(true), boolean(false)},
		"i": {whole(math.MinInt64), whole(math.MaxInt64), whole(0)},
		"r": {real32(nan()), real32(low()), real32(inf()), real32(-math.MaxFloat32), real32(0)},
		"t": {text(""), text(times("\xff", 256))},
		"l": {list(), list(times("x", 256), "")},
	}
	for name := range held {
		for own, l := range held {
			for _, v := range l {
				want := api.ErrKind
				if own == name {
					want = api.OK
				}
				wantFit(t, m, under(x, arg(name, v)), want)
			}
		}
	}
	wantFit(t, m, under(x, arg("b", boolean(true)), arg("i", whole(1)), arg("l", list("a")), arg("r", real32(1)), arg("t", text("a"))), api.OK)
	wantFit(t, m, under(x, []api.Arg{}...), api.OK)
}

// P10.1: of arguments, argument by argument: the first that doesn't fit is told, whichever way it doesn't.
func TestArgumentsByTheirOrder(t *testing.T) {
	m := model(t, wide)
	x := fact("doc:1#doc@user:a with all")
	wantFit(t, m, under(x, arg("b", whole(1)), arg("c", whole(1))), api.ErrKind)
	wantFit(t, m, under(x, arg("a", whole(1)), arg("b", whole(1))), api.ErrParam)
	wantFit(t, m, under(x, arg("b", boolean(true)), arg("c", whole(1)), arg("i", text("")), arg("l", list())), api.ErrParam)
}

// badArgs are arguments that may not be: out of order, twice, with names that are none, values that are none, too many.
func badArgs() [][]api.Arg {
	return [][]api.Arg{
		{arg("i", whole(1)), arg("b", boolean(true))},
		{arg("i", whole(1)), arg("i", whole(1))},
		{arg("", whole(1))},
		{arg("I", whole(1))},
		{arg("or", whole(1))},
		{arg(times("n", 33), whole(1))},
		{arg("i", api.Value{})},
		{arg("i", api.Value{Kind: 6})},
		{arg("i", api.Value{Kind: api.ValInt, Text: "a"})},
		{arg("t", text(times("x", 257)))},
		{arg("l", list(make([]string, 33)...))},
		numbered(17),
		numbered(1000),
	}
}

// P10.1: arguments that may not be, with a Cond and without; and such as may be, but without a Cond.
func TestArgsRefused(t *testing.T) {
	m := model(t, wide)
	for _, l := range badArgs() {
		wantFit(t, m, under(fact("doc:1#doc@user:a with all"), l...), api.ErrArgs)
		wantFit(t, m, under(fact("doc:1#doc@user:a"), l...), api.ErrArgs)
	}
	wantFit(t, m, under(fact("doc:1#doc@user:a with all"), numbered(16)...), api.ErrParam)
	wantFit(t, m, under(fact("doc:1#doc@user:a"), numbered(16)...), api.ErrArgs)
	wantFit(t, m, under(fact("doc:1#doc@user:a"), arg("i", whole(1))), api.ErrArgs)
}

// P10.1: names and ids at the limits and one past them, and subjects that are none.
func TestFieldsThatMayNotBe(t *testing.T) {
	m := model(t, wide)
	ann := fact("doc:1#doc@user:a")
	for _, id := range []string{"", "*", "a b", "a:b", "a#b", "é", "a\x00", times("i", 65)} {
		x, y := ann, ann
		x.Object.Id, y.Subject.Id = id, id
		wantFit(t, m, x, api.ErrId)
		if id != "*" {
			wantFit(t, m, y, api.ErrSubject)
		}
	}
	for _, name := range []string{"", "Doc", "or", "doc ", "a b", times("n", 32), times("n", 33)} {
		x, y, z, u := ann, ann, ann, ann
		x.Object.Type, y.Rel, z.Subject.Type, u.Subject.Rel = name, name, name, name
		wantFit(t, m, x, api.ErrType)
		wantFit(t, m, y, api.ErrRelation)
		wantFit(t, m, z, api.ErrSubject)
		if name != "" {
			wantFit(t, m, u, api.ErrSubject)
		}
	}
	x := ann
	x.Object.Id, x.Subject.Id = times("i", 64), times("j", 64)
	wantFit(t, m, x, api.OK)
	x = fact("doc:1#doc@team:a#member")
	x.Subject.Id = "*"
	wantFit(t, m, x, api.ErrSubject)
	x = ann
	x.Cond = "Bad"
	wantFit(t, m, x, api.ErrAllowed)
}

// P10.1: of several reasons the first one is told: from a tuple with all of them on, one after the other is mended.
func TestReasonsInOrder(t *testing.T) {
	m := model(t, wide)
	x := api.Tuple{Object: api.Object{Type: "file", Id: "*"}, Rel: "reader", Subject: api.Subject{Type: "bot", Id: "*", Rel: "x"}, Cond: "nowhere", Args: []api.Arg{arg("c", whole(1)), arg("b", whole(1))}}
	wantFit(t, nil, x, api.ErrNil)
	wantFit(t, m, x, api.ErrType)
	x.Object.Type = "doc"
	wantFit(t, m, x, api.ErrId)
	x.Object.Id = "1"
	wantFit(t, m, x, api.ErrRelation)
	x.Rel = "doc"
	wantFit(t, m, x, api.ErrSubject)
	x.Subject.Id = "a"
	wantFit(t, m, x, api.ErrSubject)
	x.Subject.Type = "team"
	wantFit(t, m, x, api.ErrSubject)
	x.Subject.Rel = "member"
	wantFit(t, m, x, api.ErrAllowed)
	x.Subject, x.Cond = api.Subject{Type: "user", Id: "a"}, "all"
	wantFit(t, m, x, api.ErrArgs)
	x.Args = []api.Arg{arg("b", boolean(true)), arg("c", whole(1)), arg("i", text("a"))}
	wantFit(t, m, x, api.ErrParam)
	x.Args[1].Name = "d"
	x.Args = append(x.Args[:1], x.Args[2])
	wantFit(t, m, x, api.ErrKind)
	x.Args[1].Value = whole(1)
	wantFit(t, m, x, api.OK)
}

// P10.1: each two neighbours that could be told at one time, so that no other order answers the same.
func TestReasonsSideBySide(t *testing.T) {
	m := model(t, wide)
	ann := fact("doc:1#doc@user:a with all")
	for _, c := range []struct {
		want  api.Errno
		spoil func(x *api.Tuple)
	}{
		{api.ErrType, func(x *api.Tuple) { x.Object = api.Object{Type: "file", Id: ""} }},
		{api.ErrType, func(x *api.Tuple) { x.Object.Type, x.Rel = "file", "reader" }},
		{api.ErrType, func(x *api.Tuple) { x.Object.Type, x.Subject.Type = "file", "file" }},
		{api.ErrType, func(x *api.Tuple) { x.Object.Type, x.Args = "file", numbered(17) }},
		{api.ErrId, func(x *api.Tuple) { x.Object.Id, x.Rel = "", "reader" }},
		{api.ErrId, func(x *api.Tuple) { x.Object.Id, x.Subject.Id = "", "" }},
		{api.ErrId, func(x *api.Tuple) { x.Object.Id, x.Cond = "", "" }},
		{api.ErrRelation, func(x *api.Tuple) { x.Rel, x.Subject.Id = "reader", "" }},
		{api.ErrRelation, func(x *api.Tuple) { x.Rel, x.Subject.Type = "", "bot" }},
		{api.ErrRelation, func(x *api.Tuple) { x.Rel, x.Args = "reader", numbered(17) }},
		{api.ErrSubject, func(x *api.Tuple) { x.Subject.Id, x.Cond = "", "nowhere" }},
		{api.ErrSubject, func(x *api.Tuple) { x.Subject.Id, x.Args = "", numbered(17) }},
		{api.ErrSubject, func(x *api.Tuple) { x.Subject.Rel, x.Args = "member", numbered(17) }},
		{api.ErrAllowed, func(x *api.Tuple) { x.Cond, x.Args = "nowhere", numbered(17) }},
		{api.ErrAllowed, func(x *api.Tuple) { x.Cond, x.Args = "empty", numbered(1) }},
		{api.ErrAllowed, func(x *api.Tuple) { x.Subject.Type, x.Args = "team", numbered(1) }},
		{api.ErrArgs, func(x *api.Tuple) { x.Args = []api.Arg{arg("c", whole(1)), arg("b", whole(1))} }},
		{api.ErrArgs, func(x *api.Tuple) { x.Args = []api.Arg{arg("b", whole(1)), arg("i", api.Value{})} }},
	} {
		x := ann
		c.spoil(&x)
		wantFit(t, m, x, c.want)
	}
}

// P10.1: a model without types has nothing that fits; a model that isn't there is told ahead of all.
func TestNoModel(t *testing.T) {
	none := model(t, "")
	for _, x := range []api.Tuple{{}, fact("doc:1#doc@user:a"), under(fact("doc:1#doc@user:a"), numbered(17)...)} {
		wantFit(t, none, x, api.ErrType)
		wantFit(t, nil, x, api.ErrNil)
	}
	var m *schema.Model
	wantFit(t, m, fact("doc:1#doc@user:a"), api.ErrNil)
}
