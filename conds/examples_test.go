package conds_test

import (
	"slices"
	"testing"

	"latchkey/api"
	"latchkey/conds"
	"latchkey/syntax"
)

// The chapter's examples, 1 and 2.
func TestExamplesOfCheck(t *testing.T) {
	c := read(t, "cond c(n: int, x: real, t: text, l: texts, b: bool): n + 1 < x or t in l and not b")
	wantFault(t, c, api.Fault{})
	if l := conds.Reads(c); !slices.Equal(l, []string{"b", "l", "n", "t", "x"}) {
		t.Error(l)
	}
	if c.Expr[0].Kind != api.PartEither || c.Expr[1].Kind != api.PartBelow {
		t.Error(show(c))
	}
	for s, want := range map[string]api.Fault{
		"cond c(n: int): n":                     {Err: api.ErrKind, Part: 1, Node: -1},
		"cond c(n: int): n == m":                {Err: api.ErrParam, Part: 3, Node: -1},
		"cond c(n: int, t: text): n == t and m": {Err: api.ErrKind, Part: 3, Node: -1},
		"cond c(n: int, n: bool): true":         {Err: api.ErrTwice, Part: 1, Node: -1},
		`cond c(t: text): "a" in t`:             {Err: api.ErrKind, Part: 1, Node: -1},
	} {
		wantFault(t, read(t, s), want)
	}
}

// Examples 3 to 5.
func TestExamplesOfEval(t *testing.T) {
	n := func(v api.Value) []api.Arg { return args(arg("n", v)) }
	known, met, lacks := api.Met{Known: true}, api.Met{Known: true, Met: true}, api.Met{Lacks: []string{"n"}}
	c := read(t, "cond c(n: int): 10 / n > 3")
	wantEval(t, c, n(integer(3)), known)
	wantEval(t, c, n(integer(2)), met)
	wantEval(t, c, n(integer(0)), api.Met{})
	wantEval(t, c, nil, lacks)
	wantEval(t, c, n(real32(2)), lacks)
	wantEval(t, c, n(text("2")), lacks)
	wantEval(t, c, args(arg("m", integer(1)), arg("n", integer(2))), met)
	wantEval(t, read(t, "cond c(x: real): x == x"), args(arg("x", real32(nan()))), known)
	wantEval(t, read(t, "cond c(x: real): x != x"), args(arg("x", real32(nan()))), met)
	wantEval(t, read(t, "cond c(n: int): 9007199254740993 > n + 0.0"), n(integer(9007199254740992)), met)
	wantEval(t, read(t, "cond c(n: int): n * 4611686018427387904 < 0 or true"), n(integer(2)), api.Met{})
}

// Example 6.
func TestExamplesOfFold(t *testing.T) {
	c := read(t, "cond c(n: int, m: int): n * 2 + 1 < m or n < 0")
	want := func(s string, c api.Cond) api.Cond {
		l, spot := syntax.ParseExpr(s)
		if spot != (api.Spot{}) {
			t.Fatal(s)
		}
		return of(c.Params, l)
	}
	wantFold(t, c, args(arg("n", integer(3))), want("7 < m or false", c))
	wantFold(t, c, args(arg("z", integer(1))), c)
	if _, e := conds.Fold(c, args(arg("n", text("3")))); e != api.ErrKind {
		t.Error(e)
	}
	d := read(t, "cond c(n: int): 1 / 0 == n")
	wantFold(t, d, args(arg("n", integer(1))), want("1 / 0 == 1", d))
}

// Example 7.
func TestExamplesOfFits(t *testing.T) {
	c := read(t, "cond c(n: int): n > 0")
	for _, x := range []struct {
		l    []api.Arg
		want api.Errno
	}{
		{args(arg("n", integer(1))), api.OK}, {nil, api.OK}, {args(arg("n", real32(1))), api.ErrKind},
		{args(arg("m", integer(1)), arg("n", text("a"))), api.ErrParam}, {args(arg("n", integer(1)), arg("m", integer(1))), api.ErrArgs},
	} {
		if e := conds.Fits(c, x.l); e != x.want {
			t.Errorf("Fits(%s) = %v, want %v", show(x.l), e, x.want)
		}
	}
}

// DOC.md, the ten examples: the condition of the third one.
func TestHours(t *testing.T) {
	c := read(t, "cond hours(now: int): now >= 9 and now < 17")
	for _, x := range []struct {
		v    api.Value
		want api.Met
	}{
		{integer(10), api.Met{Known: true, Met: true}}, {integer(17), api.Met{Known: true}}, {real32(10), api.Met{Lacks: []string{"now"}}},
	} {
		wantEval(t, c, args(arg("now", x.v)), x.want)
	}
	wantEval(t, c, nil, api.Met{Lacks: []string{"now"}})
}
