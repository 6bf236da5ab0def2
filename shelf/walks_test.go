package shelf_test

import (
	"iter"
	"slices"
	"testing"

	"latchkey/shelf"
)

// walks are the walks through a Shelf of 0a 1a .. that tell the elements from some place on, each with that place.
func walks(s *shelf.Shelf[pair]) map[int]iter.Seq[pair] {
	m := map[int]iter.Seq[pair]{-1: s.All()}
	for i := range s.Len() + 1 {
		m[i] = s.From(pair{i, '?'})
	}
	return m
}

func numbered(n int) *shelf.Shelf[pair] {
	s := shelf.New(byNumber)
	for _, k := range seeded(int64(n)).Perm(n) {
		s.Add(pair{k, 'a'})
	}
	return s
}

// P11.3: walks that are left early, at each element, and begun again.
func TestWalksLeftAndBegunAgain(t *testing.T) {
	for _, n := range []int{0, 1, 2, 3, 10, 33} {
		s := numbered(n)
		all := slices.Collect(s.All())
		for from, walk := range walks(s) {
			want := all[max(from, 0):]
			for k := range len(want) + 1 {
				wantList(t, "left", first(walk, k), want[:k])
			}
			wantList(t, "begun again", slices.Collect(walk), want)
		}
	}
}

// P11.3: a walk stops when it is told to, and says nothing more.
func TestWalkStops(t *testing.T) {
	for from, walk := range walks(numbered(20)) {
		for most := 1; most <= 20-max(from, 0); most++ {
			told := 0
			walk(func(pair) bool {
				told++
				return told < most
			})
			if told != most {
				t.Errorf("from %d: %d told, %d wanted", from, told, most)
			}
		}
	}
}

// P11.3: rounds of one walk within one another.
func TestWalksWithinOneAnother(t *testing.T) {
	walk := numbered(12).From(pair{2, '?'})
	var outer []int
	for x := range walk {
		outer = append(outer, x.n)
		var inner []int
		for y := range walk {
			if y.n > x.n {
				break
			}
			inner = append(inner, y.n)
		}
		wantList(t, "inner", inner, upTo(x.n + 1)[2:])
	}
	wantList(t, "outer", outer, upTo(12)[2:])
}

// P11.3: a walk tells what was there at its call, whatever becomes of the Shelf between the call and the walk.
func TestWalkOfWhatWas(t *testing.T) {
	s := numbered(30)
	was := slices.Collect(s.All())
	given := walks(s)
	changes := map[string]func(){
		"more":      func() { s.Add(pair{-1, 'b'}); s.Add(pair{99, 'b'}) },
		"another":   func() { s.Put(pair{7, 'c'}); s.Put(pair{0, 'c'}); s.Put(pair{29, 'c'}) },
		"fewer":     func() { s.Remove(pair{3, '?'}); s.Remove(pair{29, '?'}) },
		"nothing":   func() { clearAll(s) },
		"all again": func() { fill(s, 30, 'z') },
	}
	for _, name := range []string{"more", "another", "fewer", "nothing", "all again"} {
		changes[name]()
		for from, walk := range given {
			wantList(t, name, slices.Collect(walk), was[max(from, 0):])
		}
	}
	if x, ok := s.Nth(0); !ok || x != (pair{0, 'z'}) {
		t.Error("the Shelf itself", x, ok)
	}
}

func clearAll(s *shelf.Shelf[pair]) {
	for x := range s.All() {
		s.Remove(x)
	}
}

func fill(s *shelf.Shelf[pair], n int, c byte) {
	for k := range n {
		s.Put(pair{k, c})
	}
}

// P11.3: a walk tells what was there at its call, though each element that it tells is replaced, removed, or followed by others.
func TestWalkOfWhatChangesMeanwhile(t *testing.T) {
	for name, change := range map[string]func(s *shelf.Shelf[pair], x pair){
		"replaced":     func(s *shelf.Shelf[pair], x pair) { s.Put(pair{x.n, 'b'}); s.Put(pair{x.n + 1, 'b'}) },
		"removed":      func(s *shelf.Shelf[pair], x pair) { s.Remove(x) },
		"next removed": func(s *shelf.Shelf[pair], x pair) { s.Remove(pair{x.n + 1, '?'}) },
		"followed":     func(s *shelf.Shelf[pair], x pair) { s.Add(pair{x.n + 1000, 'b'}); s.Add(pair{-1 - x.n, 'b'}) },
		"all removed":  func(s *shelf.Shelf[pair], x pair) { clearAll(s) },
	} {
		for from := range 25 {
			s := numbered(25)
			was := slices.Collect(s.From(pair{from, '?'}))
			var told []pair
			for x := range s.From(pair{from, '?'}) {
				told = append(told, x)
				change(s, x)
			}
			wantList(t, name, told, was)
		}
	}
}

// P11.3: where From begins is what it was at the call, though what lies within x has changed since.
func TestFromKeepsItsPlace(t *testing.T) {
	s := shelf.New(slices.Compare[[]int])
	for k := range 10 {
		s.Add([]int{k})
	}
	x := []int{4}
	walk := s.From(x)
	x[0] = 8
	var told []int
	for y := range walk {
		told = append(told, y[0])
	}
	wantList(t, "from 4", told, upTo(10)[4:])
}

// P11.3: walks are never nil, of a Shelf without elements neither; what they hand over is the caller's.
func TestWalksAreThere(t *testing.T) {
	s := shelf.New(byNumber)
	if s.All() == nil || s.From(pair{}) == nil {
		t.Error("nil")
	}
	wantSeq(t, "All", s.All(), "")
	wantSeq(t, "From", s.From(pair{}), "")
	empty := s.All()
	s.Add(one("1a"))
	wantSeq(t, "of none", empty, "")
	for x := range s.All() {
		x.c = 'z'
		_ = x
	}
	wantSeq(t, "All", s.All(), "1a")
}
