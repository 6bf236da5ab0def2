package tuples_test

import (
	"slices"
	"testing"

	"latchkey/api"
	"latchkey/tuples"
)

// keys are tuples each two of which differ in one field of the key or in several, of texts that may stand there or not.
func keys() []api.Tuple {
	var l []api.Tuple
	for n := range 64 {
		var f []string
		for i := range 6 {
			f = append(f, []string{"a", "b"}[n>>i&1])
		}
		l = append(l, ofFields(append(f, "")))
	}
	for i := range 6 {
		for _, s := range []string{"", "*", "ab", "aa", "A", "a\x00", "\xff", "é", "#", "z"} {
			f := []string{"a", "a", "a", "a", "a", "a", ""}
			f[i] = s
			l = append(l, ofFields(f))
		}
	}
	return append(l, api.Tuple{}, fact("doc:1#r@u:*"), fact("doc:1#r@u:a"), fact("doc:1#r@u:a#m"), fact("doc:10#r@u:a"), fact("doc:2#r@u:a"))
}

// P10.3: both orders, by their fields one behind the other.
func TestOrders(t *testing.T) {
	for _, a := range keys() {
		for _, b := range keys() {
			if got, want := tuples.Compare(a, b), orderOf(a, b); got != want {
				t.Errorf("Compare(%s, %s) = %d, want %d", show(a), show(b), got, want)
			}
			if got, want := tuples.Backward(a, b), backwardOf(a, b); got != want {
				t.Errorf("Backward(%s, %s) = %d, want %d", show(a), show(b), got, want)
			}
		}
	}
}

// P10.3: neighbours in both orders, as they are written.
func TestOrdersAsWritten(t *testing.T) {
	forward := []string{"a:a#a@a:a", "a:a#a@a:a#b", "a:a#a@a:b", "a:a#a@b:a", "a:a#b@a:a", "a:b#a@a:a", "a:ba#a@a:a", "aa:a#a@a:a", "b:a#a@a:a"}
	backward := []string{"a:a#a@a:a", "a:a#b@a:a", "a:b#a@a:a", "b:a#a@a:a", "a:a#a@a:a#b", "b:b#b@a:a#b", "a:a#a@a:b", "a:a#a@aa:a", "a:a#a@b:a"}
	for i := range forward {
		for j := range forward {
			want := int(int32(i-j)>>31) | min(max(i-j, 0), 1)
			if got := tuples.Compare(fact(forward[i]), fact(forward[j])); got != want {
				t.Errorf("Compare(%s, %s) = %d", forward[i], forward[j], got)
			}
			if got := tuples.Backward(fact(backward[i]), fact(backward[j])); got != want {
				t.Errorf("Backward(%s, %s) = %d", backward[i], backward[j], got)
			}
		}
	}
}

// P10.3, P10.2: Cond and Args have no part in the orders, but in Same.
func TestOneKey(t *testing.T) {
	key := fact("d:1#r@u:a")
	bad := key
	bad.Cond = "No"
	l := []api.Tuple{
		key, bad, fact("d:1#r@u:a with c"), fact("d:1#r@u:a with e"), fact("d:1#r@u:a with c{k: 1}"), fact("d:1#r@u:a with c{k: 1.0}"), fact("d:1#r@u:a with c{k: nan}"),
		fact("d:1#r@u:a with c{k: 0.0}"), fact("d:1#r@u:a with c{k: -0.0}"), fact("d:1#r@u:a with c{k: 1, l: 1}"), fact("d:1#r@u:a with c{l: 1}"), fact("d:1#r@u:a with e{k: 1}"), fact(`d:1#r@u:a with c{k: ["a"]}`), fact(`d:1#r@u:a with c{k: ["a", "a"]}`), fact(`d:1#r@u:a with c{k: "a"}`),
		under(key, arg("k", whole(1))), under(key, numbered(17)...), under(key, arg("z", whole(1)), arg("a", whole(1))),
	}
	for i, a := range l {
		for j, b := range l {
			if tuples.Compare(a, b) != 0 || tuples.Backward(a, b) != 0 {
				t.Errorf("%s and %s have one key", show(a), show(b))
			}
			if got := tuples.Same(a, b); got != (i == j) {
				t.Errorf("Same(%s, %s) = %v", show(a), show(b), got)
			}
		}
	}
}

// P10.2: a tuple is the same as another one with all of its fields, and with no other.
func TestSame(t *testing.T) {
	all := append(keys(), fact("d:1#r@u:a with c{k: 1}"), fact("d:1#r@u:a with c"))
	for _, a := range all {
		for _, b := range all {
			if got, want := tuples.Same(a, b), alike(a, b); got != want {
				t.Errorf("Same(%s, %s) = %v", show(a), show(b), got)
			}
		}
	}
	x := fact("d:1#r@u:a")
	if !tuples.Same(under(x, []api.Arg{}...), under(x)) || !tuples.Same(api.Tuple{Args: []api.Arg{}}, api.Tuple{}) {
		t.Error("no arguments, and nil")
	}
	// A value that may not be is the same as none, so such a tuple isn't the same as itself.
	if y := under(x, arg("k", api.Value{})); tuples.Same(y, y) {
		t.Error("a value that may not be")
	}
	y, z := under(x, arg("k", real32(nan()))), under(x, arg("k", real32(-nan())))
	if !tuples.Same(y, z) {
		t.Error("nan is the same as nan")
	}
}

// P10.7: Compare is 0 just where the keys are the same, just where Backward is; both are orders.
func TestOrdersFollow(t *testing.T) {
	l := keys()
	for name, order := range map[string]func(a, b api.Tuple) int{"Compare": tuples.Compare, "Backward": tuples.Backward} {
		for _, a := range l {
			for _, b := range l {
				got := order(a, b)
				if got != -order(b, a) || (got == 0) != slices.Equal(fields(a)[:6], fields(b)[:6]) {
					t.Errorf("%s(%s, %s) = %d", name, show(a), show(b), got)
				}
				if got > 0 {
					continue
				}
				for _, c := range l {
					if order(b, c) <= 0 && order(a, c) > 0 {
						t.Fatalf("%s: %s, %s, %s", name, show(a), show(b), show(c))
					}
				}
			}
		}
	}
}
