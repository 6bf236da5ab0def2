package shelf_test

import (
	"iter"
	"slices"
	"testing"

	"latchkey/shelf"
)

// anyShelf is a Shelf of some numbers below high, with letters, that has come to be in any way.
func anyShelf(n int64, high int) *shelf.Shelf[pair] {
	c := seeded(n)
	s := shelf.New(byNumber)
	for range c.Intn(2 * high) {
		s.Add(pair{c.Intn(high), byte('a' + c.Intn(26))})
		s.Put(pair{c.Intn(high), byte('a' + c.Intn(26))})
		s.Remove(pair{c.Intn(high), '?'})
		if c.Intn(10) == 0 {
			s = s.Freeze()
		}
	}
	return s
}

func rises(l []pair) bool {
	for i := range l[min(1, len(l)):] {
		if l[i].n >= l[i+1].n {
			return false
		}
	}
	return true
}

// P11.8: All rises and has Len elements; Nth, Rank and From go by it.
func TestAllFollows(t *testing.T) {
	for n := range int64(400) {
		high := 1 + int(n)/4
		s := anyShelf(n, high)
		all := slices.Collect(s.All())
		if !rises(all) || len(all) != s.Len() {
			t.Errorf("All %s, Len %d", brief(all), s.Len())
		}
		for i, x := range all {
			y, ok := s.Nth(i)
			z, found := s.Find(pair{x.n, '?'})
			if !ok || y != x || s.Rank(y) != i || !found || z != x {
				t.Errorf("%v at %d: Nth %v, Rank %d, Find %v", x, i, y, s.Rank(y), z)
			}
		}
		for k := -1; k <= high; k++ {
			x := pair{k, '?'}
			wantList(t, "From", slices.Collect(s.From(x)), all[s.Rank(x):])
		}
	}
}

// P11.8: the elements of a are those of Meet and of Without, none in both; Join has as many as a and Without the other way.
func TestSequencesFollow(t *testing.T) {
	for n := range int64(400) {
		high := 1 + int(n)/4
		s, other := anyShelf(n, high), anyShelf(n+1000, high)
		a, b := s.All(), other.All()
		meet, without := slices.Collect(shelf.Meet(byNumber, a, b)), slices.Collect(shelf.Without(byNumber, a, b))
		join, back := slices.Collect(shelf.Join(byNumber, a, b)), slices.Collect(shelf.Without(byNumber, b, a))
		for _, l := range [][]pair{meet, without, join, back} {
			if !rises(l) {
				t.Errorf("%s doesn't rise", brief(l))
			}
		}
		wantList(t, "Meet and Without", joinOf(meet, without), slices.Collect(a))
		if len(meet)+len(without) != s.Len() || len(join) != s.Len()+len(back) {
			t.Errorf("a %d, Meet %d, Without %d, Join %d, Without of b %d", s.Len(), len(meet), len(without), len(join), len(back))
		}
		wantList(t, "what is met isn't left", siftOf(meet, without, true), nil)
		wantList(t, "Join of a and the rest of b", joinOf(slices.Collect(a), back), join)
	}
}

// P11.8: Join and Gather of what Shelves tell rises too, from anywhere on.
func TestJoinAndGatherRise(t *testing.T) {
	for n := range int64(200) {
		c := seeded(n)
		var l []iter.Seq[pair]
		var lists [][]pair
		for k := range c.Intn(6) {
			s := anyShelf(100*n+int64(k), 40)
			from := s.From(pair{c.Intn(40), '?'})
			l, lists = append(l, from), append(lists, slices.Collect(from))
		}
		most := c.Intn(30)
		got, more := shelf.Gather(shelf.Join(byNumber, l...), most)
		want := joinOf(lists...)
		if !rises(got) {
			t.Errorf("%s doesn't rise", brief(got))
		}
		wantList(t, "Gather of Join", got, want[:min(most, len(want))])
		wantBool(t, "has more", more, len(want) > most)
	}
}
