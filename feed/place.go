package feed

import (
	"iter"

	"latchkey/api"
	"latchkey/store"
	"latchkey/tuples"
)

// place is how far a store's changes have been gone past: all up to and with a revision, and the first ones of the commit behind it.
type place struct {
	rev  int64
	done int // of the commit behind rev; fewer than that has, as a commit that is gone past whole is another place
}

// isKept says whether the store tells all commits behind the place. Those are what made the revisions above the oldest, which are told, and perhaps the oldest, which, if it is the start, no commit made.
func (p place) isKept(s *store.Store) bool {
	if p.rev >= s.Oldest() {
		return true
	}
	_, e := s.Commit(p.rev + 1)
	return e == api.OK
}

// placeBehind is the place behind the change of c that has i others ahead of it.
func placeBehind(c api.Commit, i int) place {
	if i+1 == len(c.Changes) {
		return place{rev: c.Rev}
	}
	return place{rev: c.Rev - 1, done: i + 1}
}

// events tells what is behind a feed's place that its filter lets through, each event with the place right behind it. The place must be kept.
func (x feed) events(s *store.Store) iter.Seq2[api.Event, place] {
	return func(yield func(api.Event, place) bool) {
		done := x.at.done
		for rev := x.at.rev + 1; rev <= s.Newest(); rev++ {
			// A commit of a schema has no changes.
			c, _ := s.Commit(rev)
			for i := done; i < len(c.Changes); i++ {
				if tuples.Lets(x.let, c.Changes[i].Tuple) && !yield(api.Event{Rev: rev, Change: c.Changes[i]}, placeBehind(c, i)) {
					return
				}
			}
			done = 0
		}
	}
}

// canStand says whether the feed could have come to its place, which must be kept: within a commit it stands only behind a change that it has told, and with others still ahead.
func (x feed) canStand(s *store.Store) bool {
	if x.at.done == 0 {
		return true
	}
	// Behind the newest revision there is no commit, and that has no changes.
	c, _ := s.Commit(x.at.rev + 1)
	return x.at.done < len(c.Changes) && tuples.Lets(x.let, c.Changes[x.at.done-1].Tuple)
}
