package values_test

import (
	"testing"

	"latchkey/api"
	"latchkey/values"
)

// P4.9: what is written is read as the same, by literals and by bytes; unlike values have unlike ones.
func TestThereAndBack(t *testing.T) {
	literals, rows := map[string]api.Value{}, map[string]api.Value{}
	for _, v := range samples() {
		s, e := values.Text(v)
		if got, f := values.Parse(s); e != api.OK || f != api.OK || !values.Same(got, v) {
			t.Errorf("Parse of %q = %s, %d", s, show(got), f)
		}
		b, e := values.Encode(v)
		if got, f := values.Decode(b); e != api.OK || f != api.OK || !values.Same(got, v) {
			t.Errorf("Decode of % x = %s, %d", b, show(got), f)
		}
		if w, met := literals[s]; met && !values.Same(v, w) {
			t.Errorf("%s and %s are both %q", show(v), show(w), s)
		}
		if w, met := rows[string(b)]; met && !values.Same(v, w) {
			t.Errorf("%s and %s are both % x", show(v), show(w), b)
		}
		literals[s], rows[string(b)] = v, v
	}
}

// P4.9: what is the same has one literal and the same bytes, and is equal unless it is nan.
func TestSameIsEqual(t *testing.T) {
	for _, a := range samples() {
		for _, b := range samples() {
			if !values.Same(a, b) {
				continue
			}
			if c, ok := values.Compare(a, b); c != 0 || ok == isNan(a) {
				t.Errorf("Compare(%s, %s) = %d, %v", show(a), show(b), c, ok)
			}
			s, _ := values.Text(a)
			u, _ := values.Text(b)
			p, _ := values.Encode(a)
			q, _ := values.Encode(b)
			if s != u || string(p) != string(q) {
				t.Errorf("%s and %s: %q and %q, % x and % x", show(a), show(b), s, u, p, q)
			}
		}
	}
}

// P4.9: Compare goes on from one to the next, and turned about it says the other thing.
func TestCompareGoesOn(t *testing.T) {
	few := fewSamples()
	for _, a := range few {
		for _, b := range few {
			ab, ok := values.Compare(a, b)
			if ba, held := values.Compare(b, a); ba != -ab || held != ok {
				t.Errorf("Compare(%s, %s) = %d, %v; turned about %d, %v", show(a), show(b), ab, ok, ba, held)
			}
			if !ok || ab > 0 {
				continue
			}
			for _, c := range few {
				bc, ok := values.Compare(b, c)
				if !ok || bc > 0 {
					continue
				}
				if ac, ok := values.Compare(a, c); ac > 0 || !ok {
					t.Errorf("%s, %s, %s: %d", show(a), show(b), show(c), ac)
				}
			}
		}
	}
}

// P4.9: Merge with nothing, and again with own.
func TestMergeAgain(t *testing.T) {
	lists := [][]api.Arg{nil, args(1), args(8), args(16), named("a", "c", "e"), named("b", "c", "d"), {arg("a", list("x", "y")), arg("m", real32(nan())), arg("n103", text("z"))}}
	for _, own := range lists {
		wantMerge(t, own, nil, own)
		wantMerge(t, nil, own, own)
		for _, ctx := range lists {
			all, e := values.Merge(own, ctx)
			if e != api.OK {
				t.Errorf("Merge(%s, %s): %d", show(own), show(ctx), e)
			}
			if len(all) > api.MaxArgs {
				continue
			}
			wantArgs(t, all, api.OK)
			wantMerge(t, all, own, all)
			wantMerge(t, own, all, all)
			wantMerge(t, all, ctx, all)
		}
	}
}
