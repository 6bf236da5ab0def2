package store

import (
	"iter"

	"latchkey/api"
	"latchkey/schema"
	"latchkey/tuples"
)

// Snap is the facts and the model as of a revision. It never changes, and has nothing to do with the store any more.
type Snap struct {
	rev   int64
	model *schema.Model
	facts facts
}

// Rev tells the revision.
func (s *Snap) Rev() int64 {
	return s.orNone().rev
}

// Model answers the revision's model.
func (s *Snap) Model() *schema.Model {
	return s.orNone().model
}

// Len tells how many tuples there are.
func (s *Snap) Len() int {
	return s.orNone().facts.forward.Len()
}

// Find answers the tuple with the key of t, and whether there is one.
func (s *Snap) Find(t api.Tuple) (api.Tuple, bool) {
	x, there := s.orNone().facts.forward.Find(&t)
	if !there {
		return api.Tuple{}, false
	}
	return own(*x), true
}

// Of tells the tuples with that object and relation, rising by tuples.Compare.
func (s *Snap) Of(o api.Object, rel string) iter.Seq[api.Tuple] {
	// Nothing with that object and relation is below the one that says no subject.
	from := s.orNone().facts.forward.From(&api.Tuple{Object: o, Rel: rel})
	return told(from, func(x *api.Tuple) bool { return x.Object == o && x.Rel == rel })
}

// By tells the tuples with that subject, rising by tuples.Backward.
func (s *Snap) By(sub api.Subject) iter.Seq[api.Tuple] {
	from := s.orNone().facts.backward.From(&api.Tuple{Subject: sub})
	return told(from, func(x *api.Tuple) bool { return x.Subject == sub })
}

// All tells the tuples, rising by tuples.Compare.
func (s *Snap) All() iter.Seq[api.Tuple] {
	return told(s.orNone().facts.forward.All(), func(*api.Tuple) bool { return true })
}

// told hands over copies of what is told, up to the first that isn't wanted.
func told(l iter.Seq[*api.Tuple], isWanted func(x *api.Tuple) bool) iter.Seq[api.Tuple] {
	return func(yield func(api.Tuple) bool) {
		for x := range l {
			if !isWanted(x) || !yield(own(*x)) {
				return
			}
		}
	}
}

// behind tells the tuples behind after that f lets through, rising by tuples.Compare.
func (s *Snap) behind(after api.Tuple, f api.Filter) iter.Seq[api.Tuple] {
	near := stretch(f)
	from := api.Tuple{Object: api.Object{Type: near.Type, Id: near.Id}, Rel: near.Rel}
	if tuples.Compare(from, after) < 0 {
		from = after
	}
	l := s.orNone().facts.forward.From(&from)
	return func(yield func(api.Tuple) bool) {
		for x := range l {
			isLet := tuples.Lets(f, *x)
			if !isLet && !tuples.Lets(near, *x) {
				return
			}
			if isLet && tuples.Compare(*x, after) > 0 && !yield(own(*x)) {
				return
			}
		}
	}
}

// has says whether f lets some tuple through.
func (s *Snap) has(f api.Filter) bool {
	for range s.behind(api.Tuple{}, f) {
		return true
	}
	return false
}

// stretch is what f says of the fields by which tuples.Compare goes first, up to one of which it says nothing. What that lets through stands in one stretch, so the others needn't be gone through.
func stretch(f api.Filter) api.Filter {
	switch {
	case f.Type == "":
		return api.Filter{}
	case f.Id == "":
		return api.Filter{Type: f.Type}
	}
	return api.Filter{Type: f.Type, Id: f.Id, Rel: f.Rel}
}

// following is the next revision's snapshot, as long as nothing is changed: the tuples can be, as s has its own.
func (s *Snap) following() Snap {
	return Snap{rev: s.rev + 1, model: s.model, facts: s.facts.frozen()}
}

// orNone stands in for a snapshot that isn't there: one without anything answers what a nil one must.
func (s *Snap) orNone() *Snap {
	if s == nil {
		return &Snap{}
	}
	return s
}
