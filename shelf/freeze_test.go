package shelf_test

import (
	"slices"
	"sync"
	"testing"

	"latchkey/shelf"
)

// P11.4: the copy has the same elements, of Shelves of each size, and is another Shelf.
func TestFreeze(t *testing.T) {
	for _, n := range []int{0, 1, 2, 3, 30} {
		s := numbered(n)
		was := plain(slices.Collect(s.All()))
		f := s.Freeze()
		if f == nil || f == s {
			t.Fatal("no other Shelf")
		}
		wantPlain(t, f, was, -1, n)
		wantBool(t, "Add", f.Add(pair{n, 'b'}), true)
		wantPlain(t, s, was, -1, n)
		wantBool(t, "Add", s.Add(pair{-1, 'c'}), true)
		wantPlain(t, f, append(slices.Clone(was), pair{n, 'b'}), -1, n)
		wantPlain(t, s, append(slices.Clone(was), pair{-1, 'c'}), -1, n)
	}
}

// P11.4: the copy goes by the same comparison.
func TestFreezeComparison(t *testing.T) {
	s := shelf.New(func(a, b int) int { return b%10 - a%10 })
	for _, k := range []int{13, 25, 31} {
		s.Add(k)
	}
	f := s.Freeze().Freeze()
	if f.Add(3) || !f.Add(4) || !f.Put(21) {
		t.Error("the comparison")
	}
	wantList(t, "the copy", slices.Collect(f.All()), []int{25, 4, 13, 21})
	wantList(t, "the first one", slices.Collect(s.All()), []int{25, 13, 31})
}

// P11.4: copies, and copies of copies, each changed in its own way by each call, beside one another.
func TestCopiesOfCopies(t *testing.T) {
	for n := range int64(60) {
		c := seeded(n)
		high := 1 + c.Intn(40)
		shelves := []*shelf.Shelf[pair]{shelf.New(byNumber)}
		plains := []plain{nil}
		for range 400 {
			i := c.Intn(len(shelves))
			s, p := shelves[i], &plains[i]
			x := pair{c.Intn(high), byte('a' + c.Intn(26))}
			switch c.Intn(8) {
			case 0, 1, 2:
				wantBool(t, "Add", s.Add(x), p.add(x))
			case 3, 4:
				wantBool(t, "Put", s.Put(x), p.put(x))
			case 5, 6:
				wantBool(t, "Remove", s.Remove(x), p.remove(x))
			default:
				shelves, plains = append(shelves, s.Freeze()), append(plains, slices.Clone(*p))
			}
		}
		for i, s := range shelves {
			wantPlain(t, s, plains[i], -1, high)
		}
		if t.Failed() {
			t.Fatal("seed", n)
		}
	}
}

// P11.4: a copy of each state stays as that was, while the first one goes on to others and back to none.
func TestCopyOfEachState(t *testing.T) {
	s := shelf.New(byNumber)
	var copies []*shelf.Shelf[pair]
	var were [][]pair
	keep := func() {
		copies, were = append(copies, s.Freeze()), append(were, slices.Collect(s.All()))
	}
	keep()
	order := seeded(5).Perm(100)
	for _, k := range order {
		s.Add(pair{k, 'a'})
		keep()
	}
	for _, k := range order {
		s.Put(pair{99 - k, 'b'})
		keep()
	}
	for _, k := range order {
		s.Remove(pair{(k * 7) % 100, '?'})
		keep()
	}
	if s.Len() != 0 {
		t.Error(s.Len())
	}
	for i, f := range copies {
		wantList(t, "a copy", slices.Collect(f.All()), were[i])
		if f.Len() != len(were[i]) {
			t.Error(f.Len(), len(were[i]))
		}
	}
}

// P11.4: what is told of one is told though the other is changed: by several callers, each with a copy of its own, at the same time.
func TestCopiesSideBySide(t *testing.T) {
	s := numbered(200)
	was := slices.Collect(s.All())
	walk := s.From(pair{50, '?'})
	var all sync.WaitGroup
	for i := range 8 {
		f := s.Freeze()
		all.Go(func() {
			for k := range 200 {
				f.Put(pair{k, byte('a' + i)})
				f.Remove(pair{(k * 3) % 200, '?'})
				f.Add(pair{1000 + k, byte('a' + i)})
				wantList(t, "a walk of another one", slices.Collect(walk), was[50:])
			}
			for x := range f.All() {
				if x.c != byte('a'+i) {
					t.Error("what another one was given", x)
				}
			}
		})
	}
	all.Wait()
	wantList(t, "the first one", slices.Collect(s.All()), was)
}
