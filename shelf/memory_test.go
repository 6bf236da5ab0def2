package shelf_test

import (
	"iter"
	"slices"
	"sync"
	"testing"

	"latchkey/shelf"
)

// DOC.md, Memory: the list of sequences is read and forgotten: what is put into it later changes nothing, and neither it nor the room behind it is written.
func TestListOfSequences(t *testing.T) {
	for n := range 6 {
		room := make([]iter.Seq[int], 0, n+2)
		for k := range n {
			room = append(room, slices.Values([]int{k, k + 10}))
		}
		join := shelf.Join(byInt, room...)
		want := slices.Collect(join)
		wantList(t, "Join", want, append(upTo(n), upTo(n + 10)[10:]...))
		for _, x := range room[:cap(room)][n:] {
			if x != nil {
				t.Error("the room behind was written")
			}
		}
		for k, x := range room {
			wantList(t, "what came in", slices.Collect(x), []int{k, k + 10})
		}
		for k := range room {
			room[k] = slices.Values([]int{-1})
		}
		wantList(t, "later", slices.Collect(join), want)
		clear(room)
		wantList(t, "later still", slices.Collect(join), want)
		for range shelf.Join(byInt, room...) {
			t.Error("an element of nil")
		}
		for _, x := range room {
			if x != nil {
				t.Error("the list was written")
			}
		}
	}
}

// DOC.md, Sequences: what is made of walks shows what was there when those were given.
func TestMadeOfWalks(t *testing.T) {
	s, f := made("1a 3b 5c"), made("3x 4y")
	l := madeOf(byNumber, s.All(), f.From(one("3?")))
	was := map[string][]pair{}
	for name, x := range l {
		was[name] = slices.Collect(x)
	}
	for k := range 8 {
		s.Put(pair{k, 'z'})
		f.Remove(pair{k, '?'})
	}
	for name, x := range l {
		wantList(t, name, slices.Collect(x), was[name])
	}
	wantList(t, "Join", was["Join"], of("1a 3b 4y 5c"))
}

// DOC.md, Sameness: the same call answers the same, whatever else runs.
func TestSideBySide(t *testing.T) {
	s := numbered(300)
	a, b := s.All(), s.From(pair{100, '?'})
	l := madeOf(byNumber, a, b)
	want := map[string][]pair{}
	for name, x := range l {
		want[name] = slices.Collect(x)
	}
	var all sync.WaitGroup
	for range 8 {
		all.Go(func() {
			for k := range 20 {
				for name, x := range l {
					wantList(t, name, slices.Collect(x), want[name])
				}
				if x, ok := s.Find(pair{k, '?'}); !ok || x != (pair{k, 'a'}) || s.Rank(x) != k {
					t.Error(x, ok)
				}
			}
		})
	}
	all.Wait()
}
