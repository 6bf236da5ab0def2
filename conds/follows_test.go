package conds_test

import (
	"slices"
	"testing"

	"latchkey/api"
	"latchkey/conds"
	"latchkey/values"
)

// P7.6: Fold and then Eval beside Eval with Merge of both.
func TestFoldThenEval(t *testing.T) {
	c := seeded(6)
	asked := 0
	for range 20000 {
		d := c.cond()
		a, b := c.args(d.Params, c.Intn(4) == 0), c.args(d.Params, true)
		f, e := conds.Fold(d, a)
		if e != api.OK {
			continue
		}
		asked++
		wantFault(t, f, api.Fault{})
		both, e := values.Merge(a, b)
		if e != api.OK {
			t.Fatal(e)
		}
		want, e := conds.Eval(d, both)
		if e != api.OK {
			t.Fatal(e)
		}
		wantEval(t, f, b, want)
		wantFold(t, f, nil, f)
		wantFold(t, f, a, f)
	}
	if asked < 10000 {
		t.Error(asked)
	}
}

// P7.6: what may be merged may be up to twice MaxArgs.
func TestFoldThenEvalWithMany(t *testing.T) {
	c := read(t, "cond c(n10000: int, n10020: int): n10000 < n10020 - 19")
	var l []api.Arg
	for i := range 2 * api.MaxArgs {
		l = append(l, arg(numbered(i), integer(int64(i))))
	}
	a, b := l[:api.MaxArgs], l[api.MaxArgs:]
	both, e := values.Merge(a, b)
	if e != api.OK || len(both) != 2*api.MaxArgs {
		t.Fatal(e, len(both))
	}
	f, e := conds.Fold(c, a)
	if e != api.OK {
		t.Fatal(e)
	}
	wantEval(t, c, both, api.Met{Known: true, Met: true})
	wantEval(t, f, b, api.Met{Known: true, Met: true})
}

// P7.6: Known is false, if something lacks; else just by an int that is too great or a division by 0.
func TestKnown(t *testing.T) {
	c := seeded(7)
	for range 10000 {
		d := c.cond()
		l := c.args(d.Params, true)
		m, e := conds.Eval(d, l)
		if e != api.OK || m.Met && !m.Known || m.Known && len(m.Lacks) > 0 {
			t.Errorf("Eval(%s; %s) = %+v, %v", show(d), show(l), m, e)
		}
		ints := slices.ContainsFunc(d.Expr, func(x api.Part) bool {
			return x.Kind >= api.PartMinus && x.Kind <= api.PartLess && x.Kind != api.PartNo
		})
		if !m.Known && len(m.Lacks) == 0 && !ints {
			t.Errorf("%s with %s has no value for no reason", show(d), show(l))
		}
	}
}

// P7.6: arguments more, of names that aren't read, change nothing; what is Known stays with more.
func TestMoreArguments(t *testing.T) {
	c := seeded(8)
	known := 0
	for range 20000 {
		d := c.cond()
		all := c.args(d.Params, true)
		reads := conds.Reads(d)
		var read, some []api.Arg
		for _, x := range all {
			if slices.Contains(reads, x.Name) {
				read = append(read, x)
			}
			if c.Intn(3) > 0 {
				some = append(some, x)
			}
		}
		want, e := conds.Eval(d, read)
		if e != api.OK {
			t.Fatal(e)
		}
		wantEval(t, d, all, want)
		less, e := conds.Eval(d, some)
		if e != api.OK {
			t.Fatal(e)
		}
		if less.Known {
			known++
			wantEval(t, d, all, less)
		}
	}
	if known < 1000 {
		t.Error(known)
	}
}

// P7.5, P7.4: what fits can be folded.
func TestWhatFitsFolds(t *testing.T) {
	c := seeded(9)
	fits := 0
	for range 20000 {
		d := c.cond()
		l := c.args(d.Params, true)
		l = slices.DeleteFunc(l, func(api.Arg) bool { return c.Intn(3) > 0 })
		if conds.Fits(d, l) != api.OK {
			continue
		}
		fits++
		if _, e := conds.Fold(d, l); e != api.OK {
			t.Errorf("Fold(%s; %s): %v", show(d), show(l), e)
		}
	}
	if fits < 1000 {
		t.Error(fits)
	}
}
