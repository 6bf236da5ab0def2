package shelf_test

import (
	"math/bits"
	"slices"
	"testing"

	"latchkey/shelf"
)

// mostAsked is how often the comparison of a Shelf may be asked by a call, with that many elements: somewhat more than twice as often as one would halve them.
func mostAsked(n int) int {
	return 5*bits.Len(uint(n))/2 + 3
}

// asking is a Shelf of numbers that counts how often its comparison is asked.
type asking struct {
	*shelf.Shelf[int]
	asked int
}

func newAsking() *asking {
	a := &asking{}
	a.Shelf = shelf.New(func(x, y int) int {
		a.asked++
		return x - y
	})
	return a
}

// want makes a call and holds against the bound how often the comparison was asked.
func (a *asking) want(t *testing.T, name string, call func()) {
	t.Helper()
	n := a.Len()
	a.asked = 0
	call()
	if a.asked > mostAsked(n) {
		t.Fatalf("%s of %d elements: the comparison was asked %d times", name, n, a.asked)
	}
}

// Sorted sets: no call goes through all elements, in whatever order they came and went.
func TestFewComparisons(t *testing.T) {
	const n = 5000
	for name, in := range orders(n) {
		for _, out := range orders(n) {
			a := newAsking()
			for _, k := range in {
				a.want(t, name+": Add", func() { a.Add(k) })
				a.want(t, name+": Find", func() { a.Find(k) })
			}
			f := a.Freeze()
			for i, k := range out {
				a.want(t, name+": Put", func() { a.Put(k) })
				a.want(t, name+": Rank", func() { a.Rank(k) })
				a.want(t, name+": Remove", func() { a.Remove(k) })
				// Some come back, so that it shrinks and grows by turns.
				if i%4 == 0 {
					a.want(t, name+": Add", func() { a.Add(k) })
				}
			}
			if f.Len() != n {
				t.Error(f.Len())
			}
		}
	}
}

// Sorted sets: any stretches of coming and going, rising, falling and mixed, by turns.
func TestFewComparisonsByTurns(t *testing.T) {
	for seed := range int64(20) {
		c := seeded(seed)
		a := newAsking()
		for range 60 {
			at, step, grow := c.Intn(3000), c.Intn(7)-3, c.Intn(2) == 0
			for range c.Intn(300) {
				if step == 0 {
					at = c.Intn(3000)
				}
				if grow {
					a.want(t, "Add", func() { a.Add(at) })
				} else {
					a.want(t, "Remove", func() { a.Remove(at) })
				}
				a.want(t, "Rank", func() { a.Rank(at) })
				at += step
			}
		}
	}
}

// P11.4: copies cost nothing: as little of many elements as of none.
func TestCopiesCostNothing(t *testing.T) {
	few, many := shelf.New(byInt), shelf.New(byInt)
	for k := range 50000 {
		many.Add(k)
	}
	var f *shelf.Shelf[int]
	little := testing.AllocsPerRun(100, func() { f = few.Freeze() })
	much := testing.AllocsPerRun(100, func() { f = many.Freeze() })
	if little != much || much > 1 || f.Len() != 50000 {
		t.Error(little, much, f.Len())
	}
	// Nor is the copying put off to the first change.
	change := testing.AllocsPerRun(100, func() {
		f = many.Freeze()
		f.Put(25000)
		f.Remove(1)
	})
	if change > 200 {
		t.Error(change)
	}
}

// P11.3: a walk that is left early has cost no more than what was told.
func TestWalksLeftEarlyCostLittle(t *testing.T) {
	a := newAsking()
	for k := range 50000 {
		a.Add(k)
	}
	a.want(t, "From", func() {
		wantList(t, "From", first(a.From(49000), 3), []int{49000, 49001, 49002})
	})
	a.want(t, "All", func() {
		wantList(t, "All", first(a.All(), 3), []int{0, 1, 2})
	})
	if allocs := testing.AllocsPerRun(10, func() { first(a.From(7), 3) }); allocs > 50 {
		t.Error(allocs)
	}
	if l := slices.Collect(a.From(49990)); len(l) != 10 {
		t.Error(l)
	}
}
