package unfold_test

import (
	"slices"
	"strings"
	"testing"

	"latchkey/api"
	"latchkey/overlay"
	"latchkey/store"
	"latchkey/tuples"
	"latchkey/unfold"
)

// another is an overlay that has just these tuples, over a source of others: of some of them, some of other conditions, and some more.
func another(t *testing.T, c *maker, src *store.Snap) store.Source {
	t.Helper()
	var under, more, less []api.Tuple
	isOneOf := func(l []api.Tuple, x api.Tuple) bool {
		return slices.ContainsFunc(l, func(y api.Tuple) bool { return tuples.Compare(x, y) == 0 })
	}
	all := slices.Collect(src.All())
	for _, x := range c.facts(src.Model(), 12) {
		if !isOneOf(all, x) {
			less = append(less, x)
			under = append(under, x)
		} else {
			under = append(under, x)
			more = append(more, all[slices.IndexFunc(all, func(y api.Tuple) bool { return tuples.Compare(x, y) == 0 })])
		}
	}
	for _, x := range all {
		switch {
		case isOneOf(under, x):
		case c.isOneOf(2):
			more = append(more, x)
		default:
			under = append(under, x)
		}
	}
	half := len(more) / 2
	low := laid(t, snapWith(t, src.Model(), under), more[:half], less)
	if o := laid(t, low, more[half:], nil); o.Len() == src.Len() {
		return o
	}
	t.Fatal("the overlay has other tuples")
	return nil
}

// wantPlain asks for an unfolding, which is just what the chapter's table says, and for whom it names; and answers whether there is one.
func wantPlain(t *testing.T, src store.Source, g api.Grant, ctx []api.Arg, deep int, came map[string]int) bool {
	t.Helper()
	want, wantErr := plainOf(src, g, ctx, deep, came)
	l, e := unfold.Of(src, g.Object, g.Rel, ctx, deep)
	if e != wantErr || !slices.EqualFunc(l, want, isSame) {
		t.Fatalf("%s\nOf(%s, %v, %d), %d:\n%s\nwant %d\n%s", told(src), grantText(g), ctx, deep, e, strings.Join(linesOf(l), "\n"), wantErr, strings.Join(linesOf(want), "\n"))
	}
	if e != api.OK {
		came["too much"]++
		return false
	}
	isWhole := !slices.ContainsFunc(l, func(b api.Branch) bool { return b.Cut })
	if unfold.Whole(l) != isWhole {
		t.Fatalf("Whole: %v", !isWhole)
	}
	if !isWhole {
		came["cut"]++
		wantNone(t, l, api.ErrBudget)
		return true
	}
	came["whole"]++
	if got, e := unfold.Subjects(l); e != api.OK || !slices.Equal(got, plainSubjects(l)) {
		t.Fatalf("Subjects of\n%s\n%q, %d", strings.Join(linesOf(l), "\n"), textsOf(got), e)
	}
	return true
}

// P18.1, P18.2: all objects and relations of random sources, unfolded by the chapter's table, with each deep, with random arguments; of snapshots and of overlays of the same tuples.
func TestAgainstTheTable(t *testing.T) {
	came := map[string]int{}
	for n := range int64(40) {
		c := &maker{Rand: seeded(n), nots: n%3 > 0}
		m := c.model()
		src := snapWith(t, m, c.facts(m, 4+c.Intn(40)))
		over := another(t, c, src)
		if _, isOverlay := over.(*overlay.Overlay); !isOverlay {
			t.Fatal("no overlay")
		}
		ctx := c.args(true)
		for _, g := range grantsOf(src) {
			most := 4
			if c.isOneOf(4) {
				most = api.MaxDeep
			}
			// What is too much goes on being too much.
			for deep, isTold := 1, true; deep <= most && isTold; deep++ {
				isTold = wantPlain(t, src, g, ctx, deep, came)
				if deep < 5 || c.isOneOf(4) {
					wantPlain(t, over, g, ctx, deep, came)
				}
			}
		}
	}
	for _, name := range []string{"whole", "cut", "too much", "a tuple that doesn't count", "one of a type without the relation", "this of nobody", "this of one", "this of several", "same", "same cut", "from to nobody", "from to one", "from to several", "from cut", "or", "and", "not"} {
		if came[name] < 60 {
			t.Errorf("%s came up %d times", name, came[name])
		}
	}
}
