package shelf_test

import (
	"math"
	"slices"
	"testing"

	"latchkey/shelf"
)

// noOrders are comparisons that are none; each is made anew, since some remember.
func noOrders() map[string]func(a, b int) int {
	c := seeded(9)
	turn, flip := 0, 1
	return map[string]func(a, b int) int{
		"always below":  func(a, b int) int { return -1 },
		"always above":  func(a, b int) int { return 1 },
		"far below":     func(a, b int) int { return math.MinInt },
		"any":           func(a, b int) int { return c.Intn(3) - 1 },
		"in turn":       func(a, b int) int { turn++; return turn%3 - 1 },
		"never like":    func(a, b int) int { flip = -flip; return flip },
		"a ring":        func(a, b int) int { return (a-b+300)%3 - 1 },
		"like the next": func(a, b int) int { return (a - b) / 2 },
		"by the first":  func(a, b int) int { return a%5 - 2 },
		"by the second": func(a, b int) int { return b%5 - 2 },
	}
}

// Any argument: with a comparison that is none each call of a Shelf ends and none panics; what is asked of copies and walks that were given before stays.
func TestNoOrder(t *testing.T) {
	for name, compare := range noOrders() {
		c := seeded(3)
		s := shelf.New(compare)
		for i := range 2000 {
			x := c.Intn(50)
			switch c.Intn(4) {
			case 0, 1:
				s.Add(x)
			case 2:
				s.Put(x)
			default:
				s.Remove(x)
			}
			s.Find(x)
			if k := s.Rank(x); k < 0 || k > s.Len() {
				t.Fatal(name, "Rank", k)
			}
			if i%50 != 0 {
				continue
			}
			all := slices.Collect(s.All())
			f, from := s.Freeze(), s.From(x)
			if len(all) != s.Len() || len(slices.Collect(from)) > s.Len() {
				t.Fatal(name, len(all), s.Len())
			}
			was := slices.Collect(from)
			for k := range 10 {
				s.Put(k)
				s.Remove(k + 5)
			}
			wantList(t, name+", a copy", slices.Collect(f.All()), all)
			wantList(t, name+", a walk", slices.Collect(from), was)
		}
	}
}

// Any argument: with a comparison that is none what is made of sequences ends, each gone through once at most.
func TestSequencesWithoutOrder(t *testing.T) {
	for name := range noOrders() {
		c := seeded(4)
		for range 100 {
			compare := noOrders()[name]
			a, b := upTo(c.Intn(30)), upTo(c.Intn(30))
			x, y := watch(slices.Values(a)), watch(slices.Values(b))
			for call, s := range madeOf(compare, x.seq, y.seq) {
				x.begun, y.begun = 0, 0
				if l := slices.Collect(s); len(l) > 3*(len(a)+len(b)) {
					t.Error(name, call, len(l))
				}
				times := 1
				if call == "Join of six" {
					times = 3
				}
				wantGone(t, name+", "+call, x, times)
				wantGone(t, name+", "+call, y, times)
			}
		}
	}
}

// Any argument: a comparison that itself changes the Shelf for which it is asked lets each call end all the same.
func TestComparisonThatMeddles(t *testing.T) {
	for _, meddle := range []func(s *shelf.Shelf[int]){
		func(s *shelf.Shelf[int]) { s.Remove(3) },
		func(s *shelf.Shelf[int]) { s.Add(1000) },
		func(s *shelf.Shelf[int]) { s.Put(2) },
		func(s *shelf.Shelf[int]) {
			for x := range s.All() {
				s.Remove(x)
			}
		},
	} {
		var s *shelf.Shelf[int]
		busy := true
		s = shelf.New(func(a, b int) int {
			if !busy {
				busy = true
				meddle(s)
				busy = false
			}
			return a - b
		})
		for k := range 20 {
			s.Add(k)
		}
		busy = false
		for k := range 40 {
			calls := []func(){func() { s.Add(k) }, func() { s.Put(k) }, func() { s.Remove(k / 2) }, func() { s.Find(k) }, func() { s.Rank(k) }, func() { first(s.From(k), 3) }}
			for i, call := range calls {
				if fault := caught(call); fault != nil {
					t.Error(i, fault)
				}
			}
		}
	}
}

// A comparison that panics leaves the Shelf as it was.
func TestComparisonThatPanics(t *testing.T) {
	left := math.MaxInt
	s := shelf.New(func(a, b pair) int {
		if left--; left < 0 {
			panic("the comparison")
		}
		return a.n - b.n
	})
	for k := range 50 {
		s.Add(pair{2 * k, 'a'})
	}
	was := slices.Collect(s.All())
	for n := range 8 {
		for k := range 100 {
			for _, call := range []func(pair) bool{s.Add, s.Put, s.Remove} {
				f := s.Freeze()
				left = n
				fault := caught(func() { call(pair{k, 'b'}) })
				left = math.MaxInt
				if fault != nil {
					wantList(t, "behind a panic", slices.Collect(s.All()), was)
				}
				s = f
			}
		}
	}
}
