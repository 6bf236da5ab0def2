package values_test

import (
	"slices"
	"strings"
	"testing"

	"latchkey/api"
	"latchkey/values"
)

func wantArgs(t *testing.T, l []api.Arg, want api.Errno) {
	t.Helper()
	if e := values.Args(l); e != want {
		t.Errorf("Args(%s) = %d, want %d", show(l), e, want)
	}
}

func named(names ...string) []api.Arg {
	var l []api.Arg
	for i, n := range names {
		l = append(l, arg(n, whole(int64(i))))
	}
	return l
}

// P4.7, example 8, and the limit.
func TestArgs(t *testing.T) {
	for _, l := range [][]api.Arg{
		nil, {}, {arg("a", whole(1)), arg("b", whole(2))}, args(1), args(15), args(16), named("a", "a0", "a_", "aa", "b"), named(strings.Repeat("a", 31), strings.Repeat("a", 32)), named("ands", "orr"),
		{arg("a", boolean(true)), arg("b", real32(nan())), arg("c", text(x(256))), arg("d", list(make([]string, 32)...)), arg("e", api.Value{Kind: api.ValInt, Real: low()})},
	} {
		wantArgs(t, l, api.OK)
	}
	for _, l := range [][]api.Arg{
		{arg("b", whole(2)), arg("a", whole(1))}, {arg("a", whole(1)), arg("a", whole(1))}, {arg("or", whole(1))}, args(17), args(18), args(1000),
		named("a", "b", "b"), named("a", "c", "b"), named("ab", "a"), named("b", "a", "c"), named(""), named("A"), named("a", "B"), named("a", "b-"), named("9"), named("*"), named("a b"), named("é"), named("\x00"), named(strings.Repeat("a", 33)), named("a", "inf"), named("nan"), named("true"), named("with"),
		{{Name: "a"}}, {{}}, {arg("a", text(x(257)))}, {arg("a", whole(1)), arg("b", list(make([]string, 33)...))}, {arg("a", whole(1)), arg("b", api.Value{Kind: 6}), arg("c", whole(3))},
	} {
		wantArgs(t, l, api.ErrArgs)
	}
	for _, v := range wrongs() {
		wantArgs(t, []api.Arg{arg("a", v)}, api.ErrArgs)
	}
	for _, v := range samples() {
		wantArgs(t, []api.Arg{arg("a", v)}, api.OK)
	}
}

func wantSameArgs(t *testing.T, a, b []api.Arg, want bool) {
	t.Helper()
	if values.SameArgs(a, b) != want || values.SameArgs(b, a) != want {
		t.Errorf("SameArgs(%s, %s) = %v", show(a), show(b), !want)
	}
}

// P4.7: names and values neighbour by neighbour, as many.
func TestSameArgs(t *testing.T) {
	a, b := arg("a", whole(1)), arg("b", whole(2))
	wantSameArgs(t, nil, []api.Arg{}, true)
	wantSameArgs(t, nil, nil, true)
	wantSameArgs(t, []api.Arg{a, b}, []api.Arg{a, b}, true)
	wantSameArgs(t, []api.Arg{a, b}, []api.Arg{a}, false)
	wantSameArgs(t, []api.Arg{a}, nil, false)
	wantSameArgs(t, []api.Arg{a, b}, []api.Arg{b, a}, false)
	wantSameArgs(t, []api.Arg{a}, []api.Arg{arg("a", whole(2))}, false)
	wantSameArgs(t, []api.Arg{a}, []api.Arg{arg("b", whole(1))}, false)
	wantSameArgs(t, []api.Arg{a, a, b}, []api.Arg{a, b, b}, false)
	wantSameArgs(t, []api.Arg{arg("a", real32(0))}, []api.Arg{arg("a", real32(low()))}, false)
	wantSameArgs(t, []api.Arg{arg("a", real32(1))}, []api.Arg{arg("a", whole(1))}, false)
	wantSameArgs(t, []api.Arg{arg("a", list("x", "y"))}, []api.Arg{arg("a", list("x", "z"))}, false)
	for _, v := range nans() {
		wantSameArgs(t, []api.Arg{arg("a", v)}, []api.Arg{arg("a", real32(nan()))}, true)
	}
	for _, v := range wrongs() {
		wantSameArgs(t, []api.Arg{a, arg("b", v)}, []api.Arg{a, arg("b", v)}, false)
		wantSameArgs(t, []api.Arg{arg("a", v)}, []api.Arg{a}, false)
	}
}

// P4.7: whether the lists may be as arguments isn't asked: names of any text, any order, any number.
func TestSameArgsAnyNames(t *testing.T) {
	for _, l := range [][]api.Arg{named("b", "a"), named("a", "a"), named("or"), named("", "\xff", "A B", x(100)), args(17), args(1000)} {
		wantSameArgs(t, l, slices.Clone(l), true)
		wantSameArgs(t, l, l[1:], false)
		other := slices.Clone(l)
		other[0].Name += "x"
		wantSameArgs(t, l, other, false)
	}
}

func wantMerge(t *testing.T, own, ctx, want []api.Arg) {
	t.Helper()
	if got, e := values.Merge(own, ctx); e != api.OK || !values.SameArgs(got, want) {
		t.Errorf("Merge(%s, %s) = %s, %d, want %s", show(own), show(ctx), show(got), e, show(want))
	}
}

// P4.8, example 8.
func TestMerge(t *testing.T) {
	wantMerge(t, []api.Arg{arg("a", whole(1)), arg("c", whole(3))}, []api.Arg{arg("b", whole(2)), arg("c", whole(4))}, []api.Arg{arg("a", whole(1)), arg("b", whole(2)), arg("c", whole(3))})
	wantMerge(t, nil, nil, nil)
	wantMerge(t, nil, []api.Arg{}, nil)
	wantMerge(t, nil, args(16), args(16))
	wantMerge(t, args(16), nil, args(16))
	wantMerge(t, args(16), args(16), args(16))
	wantMerge(t, []api.Arg{arg("a", whole(1))}, []api.Arg{arg("a", text("x"))}, []api.Arg{arg("a", whole(1))})
	wantMerge(t, []api.Arg{arg("b", list("x"))}, []api.Arg{arg("a", real32(nan()))}, []api.Arg{arg("a", real32(nan())), arg("b", list("x"))})
	wantMerge(t, []api.Arg{arg("a_", whole(1))}, []api.Arg{arg("a", whole(2)), arg("a0", whole(3)), arg("aa", whole(4))}, []api.Arg{arg("a", whole(2)), arg("a0", whole(3)), arg("a_", whole(1)), arg("aa", whole(4))})
}

// P4.8: of all pairs of lists over some names, and up to twice MaxArgs.
func TestMergeAll(t *testing.T) {
	for m := range 1 << 5 {
		for n := range 1 << 5 {
			var own, ctx, want []api.Arg
			for i := range 5 {
				name := string(rune('a' + i))
				mine, its := arg(name, whole(int64(i))), arg(name, text(name))
				if m>>i&1 == 1 {
					own = append(own, mine)
				}
				if n>>i&1 == 1 {
					ctx = append(ctx, its)
				}
				if m>>i&1 == 1 {
					want = append(want, mine)
				} else if n>>i&1 == 1 {
					want = append(want, its)
				}
			}
			wantMerge(t, own, ctx, want)
		}
	}
	var even, odd []api.Arg
	all := args(32)
	for i := 0; i < 32; i += 2 {
		even, odd = append(even, all[i]), append(odd, all[i+1])
	}
	wantMerge(t, even, odd, all)
	wantMerge(t, odd, even, all)
	wantMerge(t, all[:16], all[16:], all)
	wantMerge(t, all[16:], all[:16], all)
	wantMerge(t, all[:16], all[15:31], all[:31])
}

// P4.8: lists that may not be, on either side.
func TestMergeWrong(t *testing.T) {
	refused := func(own, ctx []api.Arg) {
		t.Helper()
		if got, e := values.Merge(own, ctx); e != api.ErrArgs || len(got) != 0 {
			t.Errorf("Merge(%s, %s) = %s, %d", show(own), show(ctx), show(got), e)
		}
	}
	for _, l := range [][]api.Arg{args(17), named("b", "a"), named("a", "a"), named("or"), {{Name: "a"}}, {arg("a", text(x(257)))}} {
		refused(l, nil)
		refused(nil, l)
		refused(l, l)
		refused(l, args(1))
		refused(args(1), l)
	}
}

// P4.8: the values come out as they went in, what isn't their kind's own too.
func TestMergeValues(t *testing.T) {
	for _, v := range append(samples(), api.Value{Kind: api.ValInt, Int: 1, Real: low()}) {
		got, e := values.Merge([]api.Arg{arg("a", v)}, []api.Arg{arg("b", v)})
		if e != api.OK || len(got) != 2 || !alike(got[0].Value, v) || !alike(got[1].Value, v) || got[0].Name != "a" || got[1].Name != "b" {
			t.Errorf("Merge of %s twice = %s, %d", show(v), show(got), e)
		}
	}
}
