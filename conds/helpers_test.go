package conds_test

import (
	"fmt"
	"math"
	"math/rand"
	"strconv"
	"strings"
	"testing"

	"latchkey/api"
	"latchkey/conds"
	"latchkey/syntax"
	"latchkey/values"
)

func boolean(x bool) api.Value { return api.Value{Kind: api.ValBool, Bool: x} }

func integer(n int64) api.Value { return api.Value{Kind: api.ValInt, Int: n} }

func real32(x float32) api.Value { return api.Value{Kind: api.ValReal, Real: x} }

func text(s string) api.Value { return api.Value{Kind: api.ValText, Text: s} }

func list(l ...string) api.Value { return api.Value{Kind: api.ValTexts, Texts: l} }

func arg(name string, v api.Value) api.Arg { return api.Arg{Name: name, Value: v} }

func args(l ...api.Arg) []api.Arg { return l }

func bits(b uint32) float32 { return math.Float32frombits(b) }

func nan() float32 { return bits(0x7fc00000) }

func inf() float32 { return bits(0x7f800000) }

// low is -0, which no literal says.
func low() float32 { return bits(1 << 31) }

func value(v api.Value) []api.Part { return []api.Part{{Kind: api.PartValue, Value: v}} }

func param(name string) []api.Part { return []api.Part{{Kind: api.PartParam, Name: name}} }

// over is a part over those of which it is made.
func over(kind int, of ...[]api.Part) []api.Part {
	l := []api.Part{{Kind: kind}}
	for _, x := range of {
		l = append(l, x...)
	}
	return l
}

// five are parameters of all kinds; their names begin with the kinds' letters.
func five() []api.Param {
	return []api.Param{{Name: "b", Kind: api.ValBool}, {Name: "n", Kind: api.ValInt}, {Name: "x", Kind: api.ValReal}, {Name: "t", Kind: api.ValText}, {Name: "l", Kind: api.ValTexts}}
}

func of(params []api.Param, expr []api.Part) api.Cond {
	return api.Cond{Name: "c", Params: params, Expr: expr}
}

// read is the condition that a text says.
func read(t *testing.T, s string) api.Cond {
	t.Helper()
	all, spot := syntax.Parse(s)
	if spot != (api.Spot{}) || len(all.Conds) != 1 || len(all.Types) != 0 {
		t.Fatalf("%s: %+v", s, spot)
	}
	return all.Conds[0]
}

// show tells what a test speaks of, no longer than one can read.
func show(v any) string {
	s := ""
	switch x := v.(type) {
	case api.Cond:
		s, _ = syntax.PrintExpr(x.Expr)
		s = fmt.Sprint(x.Name, x.Params, ": ", s)
		if _, e := syntax.PrintExpr(x.Expr); e != api.OK {
			s = fmt.Sprintf("%#v", v)
		}
	case []api.Arg:
		for _, y := range x {
			w, e := values.Text(y.Value)
			s += y.Name + ": " + w + " " + strings.Repeat("!", int(e)) + ", "
		}
	default:
		s = fmt.Sprintf("%#v", v)
	}
	if len(s) > 400 {
		return s[:400] + ".."
	}
	return s
}

// sameCond says whether two conditions are the same, field by field.
func sameCond(a, b api.Cond) bool {
	return syntax.Same(api.Schema{Conds: []api.Cond{a}}, api.Schema{Conds: []api.Cond{b}})
}

func sameMet(a, b api.Met) bool {
	return a.Known == b.Known && a.Met == b.Met && strings.Join(a.Lacks, ",") == strings.Join(b.Lacks, ",") && len(a.Lacks) == len(b.Lacks)
}

func wantFault(t *testing.T, c api.Cond, want api.Fault) {
	t.Helper()
	if f := conds.Check(c); f != want {
		t.Errorf("Check(%s) = %+v, want %+v", show(c), f, want)
	}
}

func wantEval(t *testing.T, c api.Cond, l []api.Arg, want api.Met) {
	t.Helper()
	if m, e := conds.Eval(c, l); !sameMet(m, want) || e != api.OK {
		t.Errorf("Eval(%s; %s) = %+v, %v, want %+v", show(c), show(l), m, e, want)
	}
}

// wantFold asks that a condition folds to another one.
func wantFold(t *testing.T, c api.Cond, l []api.Arg, want api.Cond) {
	t.Helper()
	if d, e := conds.Fold(c, l); !sameCond(d, want) || e != api.OK {
		t.Errorf("Fold(%s; %s) = %s, %v, want %s", show(c), show(l), show(d), e, show(want))
	}
}

// wantRefused asks that Eval, Fold and Fits refuse, each for its reason, and answer nothing else.
func wantRefused(t *testing.T, c api.Cond, l []api.Arg, eval, fold, fits api.Errno) {
	t.Helper()
	if m, e := conds.Eval(c, l); e != eval || e != api.OK && !sameMet(m, api.Met{}) {
		t.Errorf("Eval(%s; %s) = %+v, %v, want %v", show(c), show(l), m, e, eval)
	}
	if d, e := conds.Fold(c, l); e != fold || e != api.OK && (d.Name != "" || len(d.Params) > 0 || len(d.Expr) > 0) {
		t.Errorf("Fold(%s; %s) = %s, %v, want %v", show(c), show(l), show(d), e, fold)
	}
	if e := conds.Fits(c, l); e != fits {
		t.Errorf("Fits(%s; %s) = %v, want %v", show(c), show(l), e, fits)
	}
}

// wholes lie at the ends of the ints, about their roots, and about 0.
func wholes() []int64 {
	all := []int64{0, 1, -1, 2, -2, 3, -3, 7, -7, 10, math.MinInt64, math.MinInt64 + 1, math.MaxInt64, math.MaxInt64 - 1, math.MaxInt64 / 2, math.MaxInt64/2 + 1, math.MinInt64 / 2, math.MinInt64/2 - 1}
	for _, r := range []int64{3037000499, 3037000500, 1 << 31, 1 << 32, 1 << 62, 16777217, 9007199254740993} {
		all = append(all, r, -r, r-1, -r-1)
	}
	return all
}

func numbers() []float32 {
	return []float32{0, low(), 1, -1, 0.5, -0.5, 2, 3, 10, 0.1, -1.5, inf(), -inf(), nan(), bits(0x7f800001), bits(0xffc00001), bits(1), -bits(1), math.MaxFloat32, -math.MaxFloat32, 16777216, 16777218, 1 << 62, 1 << 63, -1 << 63, 1e30, 1e-30}
}

func texts() []string {
	return []string{"", "a", "aa", "ab", "b", "\xff", "\x00", strings.Repeat("x", api.MaxBytes)}
}

func lists() [][]string {
	return [][]string{nil, {}, {""}, {"a"}, {"a", "b"}, {"b", "a"}, {"aa", "\xff"}, {"a", "a"}, make([]string, api.MaxItems)}
}

// samples are values of all kinds.
func samples() []api.Value {
	all := []api.Value{boolean(false), boolean(true)}
	for _, n := range wholes() {
		all = append(all, integer(n))
	}
	for _, y := range numbers() {
		all = append(all, real32(y))
	}
	for _, s := range texts() {
		all = append(all, text(s))
	}
	for _, l := range lists() {
		all = append(all, list(l...))
	}
	return all
}

// chance makes conditions and arguments, the same ones at each run.
type chance struct {
	*rand.Rand
	byKind [6][]api.Value
}

func seeded(n int64) chance {
	c := chance{Rand: rand.New(rand.NewSource(n))}
	for _, v := range samples() {
		c.byKind[v.Kind] = append(c.byKind[v.Kind], v)
	}
	return c
}

func pick[T any](c chance, l []T) T { return l[c.Intn(len(l))] }

func (c chance) value(kind int) api.Value {
	return pick(c, c.byKind[kind])
}

func names() []string { return []string{"a", "b", "d", "l", "n", "t", "x", "z"} }

// params are some of the names, in any order, of any kinds.
func (c chance) params() []api.Param {
	all := names()
	c.Shuffle(len(all), func(i, j int) { all[i], all[j] = all[j], all[i] })
	var l []api.Param
	for _, s := range all[:c.Intn(len(all)+1)] {
		l = append(l, api.Param{Name: s, Kind: 1 + c.Intn(5)})
	}
	return l
}

// args are arguments for some of the names; mostly of their parameters' kinds, if loose, else always.
func (c chance) args(params []api.Param, loose bool) []api.Arg {
	var l []api.Arg
	for _, s := range names() {
		kind := 1 + c.Intn(5)
		for _, p := range params {
			if p.Name == s && (!loose || c.Intn(5) > 0) {
				kind = p.Kind
			}
		}
		if c.Intn(3) > 0 {
			l = append(l, arg(s, c.value(kind)))
		}
	}
	return l
}

// leaf is a value or a parameter of the kind.
func (c chance) leaf(params []api.Param, kind int) []api.Part {
	for range 6 {
		if len(params) > 0 {
			if p := pick(c, params); p.Kind == kind {
				return param(p.Name)
			}
		}
	}
	return value(c.value(kind))
}

// expr is an expression of the kind whose parts fit together.
func (c chance) expr(params []api.Param, kind, deep int) []api.Part {
	if deep <= 1 || c.Intn(6) == 0 || kind == api.ValText || kind == api.ValTexts {
		return c.leaf(params, kind)
	}
	sub := func(k int) []api.Part { return c.expr(params, k, deep-1) }
	reckon := []int{api.PartTimes, api.PartOver, api.PartPlus, api.PartLess}
	switch {
	case kind == api.ValInt && c.Intn(4) == 0, kind == api.ValReal && c.Intn(4) == 0:
		return over(api.PartMinus, sub(kind))
	case kind == api.ValInt:
		return over(pick(c, reckon), sub(kind), sub(kind))
	case kind == api.ValReal:
		pair := pick(c, [][2]int{{api.ValReal, api.ValReal}, {api.ValInt, api.ValReal}, {api.ValReal, api.ValInt}})
		return over(pick(c, reckon), sub(pair[0]), sub(pair[1]))
	}
	switch c.Intn(8) {
	case 0:
		return over(api.PartNo, sub(api.ValBool))
	case 1, 2:
		return over(pick(c, []int{api.PartBoth, api.PartEither}), sub(api.ValBool), sub(api.ValBool))
	case 3:
		return over(api.PartIn, sub(api.ValText), sub(api.ValTexts))
	}
	pair := pick(c, [][2]int{{1, 1}, {2, 2}, {2, 2}, {2, 2}, {3, 3}, {4, 4}, {5, 5}, {2, 3}, {3, 2}})
	return over(api.PartIs+c.Intn(6), sub(pair[0]), sub(pair[1]))
}

// cond is a condition whose parts fit together.
func (c chance) cond() api.Cond {
	for {
		params := c.params()
		if expr := c.expr(params, api.ValBool, 1+c.Intn(6)); len(expr) <= api.MaxParts {
			return of(params, expr)
		}
	}
}

// anyExpr is a tree whose parts needn't fit together.
func (c chance) anyExpr(deep int) []api.Part {
	if deep <= 1 || c.Intn(4) == 0 {
		if c.Intn(2) == 0 {
			return param(pick(c, names()))
		}
		return value(c.value(1 + c.Intn(5)))
	}
	kind := api.PartMinus + c.Intn(api.PartEither-api.PartMinus+1)
	if kind <= api.PartNo {
		return over(kind, c.anyExpr(deep-1))
	}
	return over(kind, c.anyExpr(deep-1), c.anyExpr(deep-1))
}

func numbered(i int) string { return "n" + strconv.Itoa(10000+i) }
