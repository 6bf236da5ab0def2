package shelf_test

import (
	"math"
	"testing"

	"latchkey/shelf"
)

// P11.2: places below 0, the first, the last, one further and far further, of Shelves of each size.
func TestNthEdges(t *testing.T) {
	for _, n := range []int{0, 1, 2, 3, 100} {
		s := shelf.New(byNumber)
		for i := range n {
			s.Add(pair{i * 10, 'a'})
		}
		for _, i := range []int{math.MinInt, math.MinInt + 1, -n - 1, -n, -2, -1, n, n + 1, 2 * n, 1 << 40, math.MaxInt - 1, math.MaxInt} {
			if x, ok := s.Nth(i); ok != (i >= 0 && i < n) || !ok && x != (pair{}) {
				t.Errorf("Nth(%d) of %d: %v, %v", i, n, x, ok)
			}
		}
		for i := range n {
			if x, ok := s.Nth(i); !ok || x != (pair{i * 10, 'a'}) {
				t.Errorf("Nth(%d) of %d: %v, %v", i, n, x, ok)
			}
		}
	}
}

// P11.2, P11.3: Find, Rank and From of what is there, what lies between, ahead of all and behind all.
func TestRankAndFromEdges(t *testing.T) {
	s := made("20b 10a 40d 30c")
	for _, x := range []struct {
		n           int
		rank        int
		found, from string
	}{
		{math.MinInt / 2, 0, "", "10a 20b 30c 40d"},
		{9, 0, "", "10a 20b 30c 40d"},
		{10, 0, "10a", "10a 20b 30c 40d"},
		{11, 1, "", "20b 30c 40d"},
		{19, 1, "", "20b 30c 40d"},
		{20, 1, "20b", "20b 30c 40d"},
		{25, 2, "", "30c 40d"},
		{30, 2, "30c", "30c 40d"},
		{31, 3, "", "40d"},
		{40, 3, "40d", "40d"},
		{41, 4, "", ""},
		{math.MaxInt / 2, 4, "", ""},
	} {
		asked := pair{x.n, 'z'}
		if got := s.Rank(asked); got != x.rank {
			t.Errorf("Rank(%d) = %d, want %d", x.n, got, x.rank)
		}
		found, ok := s.Find(asked)
		wantPair(t, "Find", found, ok, x.found)
		wantSeq(t, "From", s.From(asked), x.from)
	}
}

// P11.2: asking changes nothing, and answers the same again.
func TestAskingChangesNothing(t *testing.T) {
	s := made("5e 3c 1a 4d 2b")
	for range 3 {
		for n := range 8 {
			s.Find(pair{n, '?'})
			s.Rank(pair{n, '?'})
			s.Nth(n)
			s.From(pair{n, '?'})
			s.Freeze()
		}
		wantPlain(t, s, of("1a 2b 3c 4d 5e"), -1, 7)
	}
}
