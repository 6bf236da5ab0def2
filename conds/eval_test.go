package conds_test

import (
	"math"
	"slices"
	"strings"
	"testing"

	"latchkey/api"
	"latchkey/conds"
	"latchkey/values"
)

// wrongArgs are lists that are no arguments, whatever the condition.
func wrongArgs() [][]api.Arg {
	one := integer(1)
	return [][]api.Arg{
		args(arg("", one)), args(arg("A", one)), args(arg("or", one)), args(arg("n ", one)), args(arg(strings.Repeat("n", api.MaxName+1), one)),
		args(arg("a", one), arg("B", one)), args(arg("a", one), arg("", one), arg("n", one)),
		args(arg("n", one), arg("m", one)), args(arg("n", one), arg("n", one)), args(arg("a", one), arg("z", one), arg("n", one)), args(arg("a", one), arg("z", one), arg("z", one)), args(arg("aa", one), arg("a", one)),
		args(arg("n", api.Value{})), args(arg("n", api.Value{Kind: 6})), args(arg("n", api.Value{Kind: api.ValInt, Int: 1, Text: "x"})), args(arg("n", api.Value{Kind: api.ValBool, Real: nan()})),
		args(arg("n", text(strings.Repeat("x", api.MaxBytes+1)))), args(arg("n", list(make([]string, api.MaxItems+1)...))), args(arg("n", list("", strings.Repeat("x", api.MaxBytes+1)))),
		args(arg("n", one), arg("z", api.Value{})), args(arg("a", api.Value{}), arg("n", one)),
	}
}

// P7.3 to P7.5: a condition's faults are told ahead of the arguments', these ahead of kinds.
func TestArgumentsThatMayNotBe(t *testing.T) {
	good := read(t, "cond c(n: int): n > 0")
	for _, l := range wrongArgs() {
		wantRefused(t, good, l, api.ErrArgs, api.ErrArgs, api.ErrArgs)
		wantRefused(t, read(t, "cond c(): true"), l, api.ErrArgs, api.ErrArgs, api.ErrArgs)
		wantRefused(t, read(t, "cond c(n: int): n"), l, api.ErrKind, api.ErrKind, api.ErrKind)
		wantRefused(t, read(t, "cond c(n: int): m"), l, api.ErrParam, api.ErrParam, api.ErrParam)
		wantRefused(t, read(t, "cond c(n: int, n: int): true"), l, api.ErrTwice, api.ErrTwice, api.ErrTwice)
		wantRefused(t, api.Cond{}, l, api.ErrName, api.ErrName, api.ErrName)
		wantRefused(t, of(nil, nil), l, api.ErrTree, api.ErrTree, api.ErrTree)
	}
	// An argument of another kind ahead of one that may not be.
	wantRefused(t, good, args(arg("n", text("")), arg("z", api.Value{})), api.ErrArgs, api.ErrArgs, api.ErrArgs)
	wantRefused(t, good, args(arg("n", text(""))), api.OK, api.ErrKind, api.ErrKind)
	wantRefused(t, good, args(arg("m", text("")), arg("n", text(""))), api.OK, api.ErrKind, api.ErrParam)
	wantRefused(t, good, args(arg("m", integer(1))), api.OK, api.OK, api.ErrParam)
	wantRefused(t, good, args(arg("n", integer(1))), api.OK, api.OK, api.OK)
	// Noughts below 0 may stand in the Real of what is no real.
	wantRefused(t, good, args(arg("n", api.Value{Kind: api.ValInt, Int: 1, Real: low()})), api.OK, api.OK, api.OK)
}

// P7.3, P7.4: there may be any number of arguments, whose names are no parameter's too; of P7.5 as many as chapter 4 says.
func TestAnyNumberOfArguments(t *testing.T) {
	c := read(t, "cond c(n10000: int, n10016: int, n14999: int): n10000 + n10016 * 2 == n14999")
	var l []api.Arg
	for i := range 5000 {
		l = append(l, arg(numbered(i), integer(int64(i*3+(i/4999)*-14901))))
	}
	wantEval(t, c, l, api.Met{Known: true, Met: true})
	wantFold(t, c, l, of(c.Params, value(boolean(true))))
	wantEval(t, c, l[:4999], api.Met{Lacks: []string{"n14999"}})
	wantEval(t, c, l[17:], api.Met{Lacks: []string{"n10000", "n10016"}})
	wantEval(t, c, l[:17], api.Met{Lacks: []string{"n14999"}})
	wantFold(t, c, l[:17], of(c.Params, over(api.PartIs, value(integer(96)), param("n14999"))))
	wantRefused(t, c, l[:17], api.OK, api.OK, api.ErrArgs)
	var params []api.Param
	for i := range 16 {
		params = append(params, api.Param{Name: numbered(i), Kind: api.ValInt})
	}
	full := of(params, value(boolean(true)))
	wantRefused(t, full, l[:16], api.OK, api.OK, api.OK)
	wantRefused(t, full, l[:17], api.OK, api.OK, api.ErrArgs)
	wantRefused(t, full, l[1:17], api.OK, api.OK, api.ErrParam)
	l[4000].Name = "n14001"
	wantRefused(t, c, l, api.ErrArgs, api.ErrArgs, api.ErrArgs)
}

// two are parameters a and b of such kinds, and r of the kind of what comes of them.
func two(a, b, r int) []api.Param {
	return []api.Param{{Name: "a", Kind: a}, {Name: "b", Kind: b}, {Name: "r", Kind: r}}
}

// wantWorth asks what an expression over a and b comes to with these, by what Fold leaves of its comparison with r, and by Eval.
func wantWorth(t *testing.T, l []api.Part, a, b api.Value, kind int, want *api.Value) {
	t.Helper()
	c := of(two(a.Kind, b.Kind, kind), over(api.PartIs, l, param("r")))
	given := args(arg("a", a), arg("b", b))
	d, e := conds.Fold(c, given)
	if e != api.OK {
		t.Fatalf("Fold(%s; %s): %v", show(c), show(given), e)
	}
	if want == nil {
		wantEval(t, c, append(given, arg("r", api.Value{Kind: kind})), api.Met{})
		if len(d.Expr) != len(c.Expr) || d.Expr[1].Kind != l[0].Kind {
			t.Errorf("%s with %s comes to something: %s", show(of(nil, l)), show(given), show(d))
		}
		return
	}
	if len(d.Expr) != 3 || !values.Same(d.Expr[1].Value, *want) {
		t.Errorf("%s with %s: %s, want %s", show(of(nil, l)), show(given), show(d), show(*want))
	}
	wantEval(t, c, append(given, arg("r", *want)), api.Met{Known: true, Met: want.Real == want.Real})
}

// P7.3: ints at their ends, what is no int64, divisions by 0.
func TestReckoningWithInts(t *testing.T) {
	none := 0
	for _, m := range wholes() {
		for _, n := range wholes() {
			for kind := api.PartTimes; kind <= api.PartLess; kind++ {
				want := reckoned(kind, integer(m), integer(n))
				if want == nil {
					none++
				}
				wantWorth(t, over(kind, param("a"), param("b")), integer(m), integer(n), api.ValInt, want)
			}
		}
		wantWorth(t, over(api.PartMinus, param("a")), integer(m), integer(0), api.ValInt, worked(api.PartMinus, []api.Value{integer(m)}))
	}
	if none < 500 {
		t.Error(none)
	}
	least := "-9223372036854775808"
	for s, want := range map[string]api.Met{
		"-n == 0":                                     {},
		"n / -1 == 0":                                 {},
		"n * -1 == 0":                                 {},
		"-1 * n == 0":                                 {},
		"n - 1 < 0":                                   {},
		"0 - n > 0":                                   {},
		"-1 - n == 9223372036854775807":               {Known: true, Met: true},
		"n + n < 0":                                   {},
		"n / 0 == 0":                                  {},
		"0 / 0 == 0":                                  {},
		"n / n == 1":                                  {Known: true, Met: true},
		"n * 1 == n":                                  {Known: true, Met: true},
		"n * 0 == 0":                                  {Known: true, Met: true},
		"-(n + 1) == 9223372036854775807":             {Known: true, Met: true},
		"n + 9223372036854775807 == -1":               {Known: true, Met: true},
		"n / -9223372036854775807 == 1":               {Known: true, Met: true},
		"n == " + least:                               {Known: true, Met: true},
		"4611686018427387904 * -2 == n":               {Known: true, Met: true},
		"-4611686018427387904 * -2 == n":              {},
		"7 / -2 == -3 and -7 / 2 == -3":               {Known: true, Met: true},
		"7 / 2 == 3 and -7 / -2 == 3":                 {Known: true, Met: true},
		"1 / 2 == 0 and -1 / 2 == 0":                  {Known: true, Met: true},
		"1 / 0 == 1 or true":                          {},
		"false and n * 2 == 0":                        {},
		"not n * 2 == 0":                              {},
		"n * 2.0 == 2.0 * n and n * 2.0 < n":          {Known: true, Met: true},
		"-(n + 0.0) > 9223372036854775807":            {Known: true, Met: true},
		"n / 0.0 == -inf and 1 / 0.0 == inf":          {Known: true, Met: true},
		"(n + 1) / -1 - 9223372036854775807 == 0 / 5": {Known: true, Met: true},
	} {
		wantEval(t, read(t, "cond c(n: int): "+s), args(arg("n", integer(math.MinInt64))), want)
	}
}

// P7.3: reals by reals.Do, an int beside one made a real; the sign of noughts; nan.
func TestReckoningWithReals(t *testing.T) {
	var all []api.Value
	for _, x := range numbers() {
		all = append(all, real32(x))
	}
	for _, n := range wholes() {
		all = append(all, integer(n))
	}
	for _, a := range all {
		for _, b := range all {
			if a.Kind == api.ValInt && b.Kind == api.ValInt {
				continue
			}
			for kind := api.PartTimes; kind <= api.PartLess; kind++ {
				wantWorth(t, over(kind, param("a"), param("b")), a, b, api.ValReal, reckoned(kind, a, b))
			}
		}
		if a.Kind == api.ValReal {
			opposite := real32(-a.Real)
			wantWorth(t, over(api.PartMinus, param("a")), a, a, api.ValReal, &opposite)
			wantWorth(t, over(api.PartMinus, over(api.PartMinus, param("a"))), a, a, api.ValReal, &a)
		}
	}
	for _, x := range []struct {
		s    string
		x    float32
		want bool
	}{
		{"1.0 / -x == -inf", 0, true}, {"1.0 / -x == inf", low(), true}, {"1.0 / (0.0 - x) == inf", 0, true}, {"1.0 / (0 - x) == inf", 0, true}, {"x == -x", 0, true},
		{"-x == x", nan(), false}, {"-x != x", nan(), true}, {"-x == -inf", inf(), true}, {"x + 1 == x", inf(), true}, {"x - x == 0.0", inf(), false},
		{"16777217 + x == 16777216", 0, true}, {"16777217 == 16777217 + x", 0, false},
	} {
		wantEval(t, read(t, "cond c(x: real): "+x.s), args(arg("x", real32(x.x))), api.Met{Known: true, Met: x.want})
	}
}

// P7.3: each comparison of each two values whose kinds can be compared, nan beside each.
func TestComparisons(t *testing.T) {
	all := samples()
	for _, a := range all {
		for _, b := range all {
			if tableKind(api.PartIs, kindNames()[a.Kind], kindNames()[b.Kind]) == "" {
				continue
			}
			for kind := api.PartIs; kind <= api.PartAtLeast; kind++ {
				c := of(two(a.Kind, b.Kind, api.ValBool), over(kind, param("a"), param("b")))
				wantEval(t, c, args(arg("a", a), arg("b", b)), api.Met{Known: true, Met: compared(kind, a, b)})
			}
		}
	}
	for s, want := range map[string]bool{
		"nan == 1": false, "nan != 1": true, "nan < 1": false, "nan <= 1": false, "nan > 1": false, "nan >= 1": false,
		"1 == nan": false, "1 != nan": true, "1 < nan": false, "1 <= nan": false, "1 > nan": false, "1 >= nan": false,
		"nan <= nan": false, "nan >= nan": false, "nan != nan": true, "not nan == nan": true,
		"0.0 == -0.0": true, "-0.0 < 0.0": false, "0 == -0.0": true, "1 == 1.0": true, "1.0 == 1": true,
		"16777217 > 16777216.0": true, "16777216.0 < 16777217": true, "16777217 == 16777217.0": false,
		"false < true": true, "true <= false": false, `"a" < "ab"`: true, `"b" > "ab"`: true, `[] < [""]`: true, `["b"] > ["a", "c"]`: true, `["a"] == ["a"]`: true, `["a", "b"] != ["b", "a"]`: true,
		`"a" in ["b", "a"]`: true, `"c" in ["b", "a"]`: false, `"" in []`: false, `"" in [""]`: true, `"a" in ["ab"]`: false,
	} {
		wantEval(t, read(t, "cond c(): "+s), nil, api.Met{Known: true, Met: want})
	}
	for _, s := range texts() {
		for _, l := range lists() {
			c := of(two(api.ValText, api.ValTexts, api.ValBool), over(api.PartIn, param("a"), param("b")))
			wantEval(t, c, args(arg("a", text(s)), arg("b", list(l...))), api.Met{Known: true, Met: slices.Contains(l, s)})
		}
	}
}

// P7.3: not, and, or; where one has no value, none has what is made of it, whatever the other one is.
func TestTruths(t *testing.T) {
	lacks := func(l []api.Arg) (names []string) {
		for _, s := range []string{"a", "b"} {
			if !slices.ContainsFunc(l, func(x api.Arg) bool { return x.Name == s }) {
				names = append(names, s)
			}
		}
		return names
	}
	given := func(a, b int) (l []api.Arg) {
		for i, s := range []string{"a", "b"} {
			if n := []int{a, b}[i]; n < 2 {
				l = append(l, arg(s, boolean(n == 1)))
			}
		}
		return l
	}
	for a := range 3 {
		for b := range 3 {
			l := given(a, b)
			known := len(l) == 2
			for kind, met := range map[int]bool{api.PartBoth: a*b == 1, api.PartEither: a == 1 || b == 1, api.PartIs: a == b, api.PartBelow: a < b} {
				c := of(two(api.ValBool, api.ValBool, api.ValBool), over(kind, param("a"), param("b")))
				wantEval(t, c, l, api.Met{Known: known, Met: known && met, Lacks: lacks(l)})
				c.Expr = over(api.PartNo, c.Expr)
				wantEval(t, c, l, api.Met{Known: known, Met: known && !met, Lacks: lacks(l)})
			}
		}
	}
}

// P7.3: what lacks: what is read and has no argument, or one of another kind; what isn't read doesn't lack.
func TestLacks(t *testing.T) {
	c := read(t, "cond c(z: int, t: text, a: bool, q: int, m: real): not (a and z > 0 or t == \"x\" and z < 9 or m > z)")
	whole := args(arg("a", boolean(false)), arg("m", real32(0)), arg("t", text("x")), arg("z", integer(9)))
	wantEval(t, c, whole, api.Met{Known: true, Met: true})
	wantEval(t, c, nil, api.Met{Lacks: []string{"a", "m", "t", "z"}})
	for i, x := range whole {
		rest := slices.Delete(slices.Clone(whole), i, i+1)
		wantEval(t, c, rest, api.Met{Lacks: []string{x.Name}})
		for _, v := range samples() {
			if v.Kind != x.Value.Kind {
				other := slices.Clone(whole)
				other[i].Value = v
				wantEval(t, c, other, api.Met{Lacks: []string{x.Name}})
				wantRefused(t, c, other, api.OK, api.ErrKind, api.ErrKind)
			}
		}
	}
	// q isn't read: an argument of another kind is passed over by Eval, and by Fold isn't.
	other := slices.Insert(slices.Clone(whole), 2, arg("q", text("")))
	wantEval(t, c, other, api.Met{Known: true, Met: true})
	wantRefused(t, c, other, api.OK, api.ErrKind, api.ErrKind)
	// What comes to none by itself doesn't hide what lacks.
	wantEval(t, read(t, "cond c(a: int, z: int): z / (1 / 0) == a"), args(arg("z", integer(1))), api.Met{Lacks: []string{"a"}})
	wantEval(t, read(t, "cond c(a: int, z: int): z / (1 / 0) == a"), args(arg("a", integer(1)), arg("z", integer(1))), api.Met{})
}

// P7.3: whatever a condition is made of, and whatever the arguments.
func TestEvalOfAnyCondition(t *testing.T) {
	c := seeded(4)
	var unknown, met, lacking int
	for range 30000 {
		d := c.cond()
		l := c.args(d.Params, true)
		want := metOf(d, l)
		switch {
		case want.Met:
			met++
		case len(want.Lacks) > 0:
			lacking++
		case !want.Known:
			unknown++
		}
		wantEval(t, d, l, want)
	}
	if met < 1000 || unknown < 300 || lacking < 1000 {
		t.Error(met, unknown, lacking)
	}
}
