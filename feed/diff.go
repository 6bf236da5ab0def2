package feed

import (
	"slices"

	"latchkey/api"
	"latchkey/store"
	"latchkey/tuples"
)

// Diff answers the changes that make b's tuples of a's, one for each key at which they are unlike, rising.
func Diff(a, b *store.Snap) ([]api.Change, api.Errno) {
	if isNone(a) || isNone(b) {
		return nil, api.ErrNil
	}
	was, is := slices.Collect(a.All()), slices.Collect(b.All())
	var l []api.Change
	for len(was)+len(is) > 0 {
		order := next(was, is)
		switch {
		case order < 0:
			l = append(l, api.Change{Kind: api.ChangeDelete, Tuple: keyOf(was[0])})
		case order > 0:
			l = append(l, api.Change{Kind: api.ChangeInsert, Tuple: is[0]})
		case !tuples.Same(was[0], is[0]):
			l = append(l, api.Change{Kind: api.ChangeTouch, Tuple: is[0]})
		}
		if order <= 0 {
			was = was[1:]
		}
		if order >= 0 {
			is = is[1:]
		}
	}
	return l, api.OK
}

// isNone says whether there is no snapshot; one that no store has made has no model, and counts as none.
func isNone(s *store.Snap) bool {
	return s.Model() == nil
}

// next says whose first key comes next, one of which must be there: that of was (below 0), that of is (above 0), or that of both.
func next(was, is []api.Tuple) int {
	switch {
	case len(is) == 0:
		return -1
	case len(was) == 0:
		return 1
	}
	return tuples.Compare(was[0], is[0])
}

// keyOf is t without what isn't its key.
func keyOf(t api.Tuple) api.Tuple {
	return api.Tuple{Object: t.Object, Rel: t.Rel, Subject: t.Subject}
}
