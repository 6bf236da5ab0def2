package store

import (
	"slices"

	"latchkey/api"
	"latchkey/shelf"
	"latchkey/tuples"
)

// facts are tuples in both orders, forward by tuples.Compare and backward by tuples.Backward. Both shelves have the same tuples, which are never written: a revision shares all with the one ahead but what it has changed, and pointers keep small what it doesn't share.
type facts struct {
	forward  *shelf.Shelf[*api.Tuple]
	backward *shelf.Shelf[*api.Tuple]
}

func noFacts() facts {
	return facts{
		forward:  shelf.New(func(a, b *api.Tuple) int { return tuples.Compare(*a, *b) }),
		backward: shelf.New(func(a, b *api.Tuple) int { return tuples.Backward(*a, *b) }),
	}
}

// frozen answers facts that can be changed while f stays.
func (f facts) frozen() facts {
	return facts{forward: f.forward.Freeze(), backward: f.backward.Freeze()}
}

// put lays t in, in the place of the one of its key, and says whether there was one. It keeps t as it is.
func (f facts) put(t api.Tuple) bool {
	f.backward.Put(&t)
	return f.forward.Put(&t)
}

// remove takes the tuple of t's key away, and says whether there was one.
func (f facts) remove(t api.Tuple) bool {
	f.backward.Remove(&t)
	return f.forward.Remove(&t)
}

// keyOf is t without what isn't its key.
func keyOf(t api.Tuple) api.Tuple {
	return api.Tuple{Object: t.Object, Rel: t.Rel, Subject: t.Subject}
}

// own answers a copy of t that has no list in common with it.
func own(t api.Tuple) api.Tuple {
	t.Args = append([]api.Arg(nil), t.Args...)
	for i := range t.Args {
		v := &t.Args[i].Value
		v.Texts = append([]string(nil), v.Texts...)
	}
	return t
}

func ownChanges(l []api.Change) []api.Change {
	all := slices.Clone(l)
	for i, c := range all {
		all[i].Tuple = own(c.Tuple)
	}
	return all
}
