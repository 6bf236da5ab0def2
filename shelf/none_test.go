package shelf_test

import (
	"testing"

	"latchkey/shelf"
)

// P11.5: a Shelf that isn't there, as nil, as New without a comparison, and as Freeze of none.
func TestNoShelf(t *testing.T) {
	var none *shelf.Shelf[pair]
	for name, s := range map[string]*shelf.Shelf[pair]{"nil": none, "New": shelf.New[pair](nil), "Freeze": none.Freeze()} {
		if s != nil {
			t.Fatal(name)
		}
		for range 2 {
			if s.Add(one("1a")) || s.Put(one("1a")) || s.Remove(one("1a")) {
				t.Error(name, "was changed")
			}
			x, ok := s.Find(one("1a"))
			wantPair(t, "Find", x, ok, "")
			for _, i := range []int{-1, 0, 1} {
				x, ok = s.Nth(i)
				wantPair(t, "Nth", x, ok, "")
			}
			if s.Len() != 0 || s.Rank(one("1a")) != 0 || s.Freeze() != nil {
				t.Error(name, s.Len(), s.Rank(one("1a")))
			}
			if s.All() == nil || s.From(one("1a")) == nil {
				t.Error(name, "a walk that is nil")
			}
			wantSeq(t, "All", s.All(), "")
			wantSeq(t, "From", s.From(one("1a")), "")
		}
	}
}
