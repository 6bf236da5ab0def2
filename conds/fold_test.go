package conds_test

import (
	"math"
	"strings"
	"testing"

	"latchkey/api"
	"latchkey/conds"
	"latchkey/syntax"
)

// P7.4: what comes to a value, and isn't within what does, stands as one; all else stays, and what it is made of is folded.
func TestFoldText(t *testing.T) {
	const head = "cond c(n: int, m: int, x: real, t: text, l: texts, b: bool): "
	for _, x := range []struct {
		s    string
		l    []api.Arg
		want string
	}{
		{"n > m", nil, "n > m"},
		{"n > m", args(arg("n", integer(-3))), "-3 > m"},
		{"n > m", args(arg("m", integer(1)), arg("n", integer(2))), "true"},
		{"n > 1 + 2 * 3", nil, "n > 7"},
		{"true and b", nil, "true and b"},
		{"b or not (1 > 2)", nil, "b or true"},
		{"false and b", nil, "false and b"},
		{"true or b", nil, "true or b"},
		{"not b", nil, "not b"},
		{"not b", args(arg("b", boolean(true))), "false"},
		{"n + 1 + 2 > 0", nil, "n + 1 + 2 > 0"},
		{"n + (1 + 2) > 0", nil, "n + 3 > 0"},
		{"-n > -(5)", nil, "-n > -5"},
		{"-n > m", args(arg("n", integer(5))), "-5 > m"},
		{"-x > 0", args(arg("x", real32(0))), "false"},
		{"-x > m", args(arg("x", real32(0))), "-0.0 > m"},
		{"n / x > m", args(arg("n", integer(1)), arg("x", real32(3))), "0.33333334 > m"},
		{"t in l", args(arg("l", list("a", "b"))), `t in ["a", "b"]`},
		{"t in l or l == l", args(arg("l", list("a"))), `t in ["a"] or true`},
		{"t in l", args(arg("t", text("\n"))), `"\n" in l`},
		// What comes to none by itself stays, and what it is made of is folded.
		{"1 / 0 == n", args(arg("n", integer(1))), "1 / 0 == 1"},
		{"n / (1 - 1) == m + 2", args(arg("n", integer(1))), "1 / 0 == m + 2"},
		{"n / (1 - 1) == m + 2", args(arg("m", integer(4)), arg("n", integer(1))), "1 / 0 == 6"},
		{"(9223372036854775807 + n) * 0 == 0 and (2 > 1 or b)", args(arg("n", integer(1))), "(9223372036854775807 + 1) * 0 == 0 and (true or b)"},
		{"-(-9223372036854775808) > n", args(arg("n", integer(0))), "--9223372036854775808 > 0"},
		{"-(n - 1) > 0", args(arg("n", integer(math.MinInt64+1))), "--9223372036854775808 > 0"},
		{"(1 / 0 == 1 or b) and 1 / 0 == n + 1", args(arg("b", boolean(true)), arg("n", integer(1))), "(1 / 0 == 1 or true) and 1 / 0 == 2"},
		// What names no parameter is passed over.
		{"n > m", args(arg("a", text("x")), arg("n", integer(1)), arg("z", boolean(true))), "1 > m"},
		{"true", nil, "true"},
		{"x == x", args(arg("x", real32(nan()))), "false"},
		{"x == n", args(arg("x", real32(nan()))), "nan == n"},
		{"-x == n", args(arg("x", real32(nan()))), "nan == n"},
	} {
		c := read(t, head+x.s)
		c.Name = "own"
		d, e := conds.Fold(c, x.l)
		s, bad := syntax.PrintExpr(d.Expr)
		if e != api.OK || bad != api.OK || s != x.want {
			t.Errorf("Fold(%s; %s) = %q, %v, want %q", x.s, show(x.l), s, e, x.want)
		}
		// Parameters stay too, though nothing reads them any more.
		if !sameCond(d, api.Cond{Name: "own", Params: c.Params, Expr: d.Expr}) {
			t.Errorf("Fold(%s): %s", x.s, show(d))
		}
	}
}

// P7.4: an argument of a parameter's name and another kind is refused, read or not; of another name it isn't.
func TestFoldRefusesKinds(t *testing.T) {
	for _, v := range samples() {
		for _, p := range five() {
			c := of(five(), value(boolean(true)))
			reading := of(five(), over(api.PartIs, param(p.Name), param(p.Name)))
			want := api.ErrKind
			if v.Kind == p.Kind {
				want = api.OK
			}
			wantRefused(t, c, args(arg(p.Name, v)), api.OK, want, want)
			wantRefused(t, reading, args(arg(p.Name, v)), api.OK, want, want)
			wantRefused(t, c, args(arg(p.Name+"s", v)), api.OK, api.OK, api.ErrParam)
		}
	}
}

// P7.4: a folded condition may have a text that is longer than a source.
func TestFoldToALongText(t *testing.T) {
	full := make([]string, api.MaxItems)
	for i := range full {
		full[i] = strings.Repeat("\x00", api.MaxBytes)
	}
	c := read(t, "cond c(l: texts, t: text): t in l or t in l or t in l")
	d, e := conds.Fold(c, args(arg("l", list(full...))))
	if _, long := syntax.Print(api.Schema{Conds: []api.Cond{d}}); e != api.OK || long != api.ErrLong {
		t.Fatal(e, long)
	}
	wantFault(t, d, api.Fault{})
	wantEval(t, d, args(arg("t", text(full[0]))), api.Met{Known: true, Met: true})
	wantEval(t, d, nil, api.Met{Lacks: []string{"t"}})
	wantFold(t, d, nil, d)
	wantFold(t, d, args(arg("t", text(""))), of(c.Params, value(boolean(false))))
	wantRefused(t, d, args(arg("t", integer(1))), api.OK, api.ErrKind, api.ErrKind)
}

// P7.4: whatever a condition is made of, and whatever the arguments.
func TestFoldOfAnyCondition(t *testing.T) {
	c := seeded(5)
	shorter, stays := 0, 0
	for range 30000 {
		d := c.cond()
		l := c.args(d.Params, false)
		want := foldOf(d, l)
		if len(want.Expr) > 1 && len(want.Expr) < len(d.Expr) {
			shorter++
		}
		if len(want.Expr) > 1 && len(metOf(d, l).Lacks) == 0 {
			stays++
		}
		wantFold(t, d, l, want)
	}
	if shorter < 1000 || stays < 300 {
		t.Error(shorter, stays)
	}
}

// P7.5: argument by argument, in their order.
func TestFits(t *testing.T) {
	c := read(t, "cond c(b: bool, d: int, f: text): true")
	yes, one, word := boolean(true), integer(1), text("")
	for _, x := range []struct {
		l    []api.Arg
		want api.Errno
	}{
		{nil, api.OK}, {args(), api.OK},
		{args(arg("b", yes), arg("d", one), arg("f", word)), api.OK},
		{args(arg("f", word)), api.OK},
		{args(arg("a", yes)), api.ErrParam}, {args(arg("g", yes)), api.ErrParam},
		{args(arg("b", one)), api.ErrKind}, {args(arg("d", real32(1))), api.ErrKind},
		{args(arg("b", one), arg("c", one)), api.ErrKind}, {args(arg("a", one), arg("b", one)), api.ErrParam},
		{args(arg("b", yes), arg("d", yes), arg("e", yes)), api.ErrKind}, {args(arg("b", yes), arg("c", yes), arg("d", yes)), api.ErrParam},
		{args(arg("b", yes), arg("d", one), arg("f", one)), api.ErrKind}, {args(arg("b", yes), arg("d", one), arg("f", word), arg("g", one)), api.ErrParam},
		{args(arg("a", yes), arg("b", one), arg("B", one)), api.ErrArgs}, {args(arg("b", one), arg("a", yes)), api.ErrArgs},
	} {
		if e := conds.Fits(c, x.l); e != x.want {
			t.Errorf("Fits(%s) = %v, want %v", show(x.l), e, x.want)
		}
	}
	if e := conds.Fits(read(t, "cond c(): true"), args(arg("b", yes))); e != api.ErrParam {
		t.Error(e)
	}
	if e := conds.Fits(read(t, "cond c(): true"), nil); e != api.OK {
		t.Error(e)
	}
}
