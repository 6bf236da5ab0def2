package unfold

import (
	"slices"
	"sort"

	"latchkey/api"
	"latchkey/conds"
	"latchkey/schema"
	"latchkey/store"
	"latchkey/values"
)

// walk goes through what a relation is made of, and leaves a branch for each node that it comes by.
type walk struct {
	src      store.Source
	model    *schema.Model
	ctx      []api.Arg
	known    map[api.Grant][]api.Subject // whom the tuples that count name, rising: the walk may come by them again and again
	branches []api.Branch
	subjects int // of all branches
}

func newWalk(src store.Source, ctx []api.Arg) *walk {
	return &walk{src: src, model: src.Model(), ctx: ctx, known: map[api.Grant][]api.Subject{}}
}

// whole makes the walk, and says whether it came to its end.
func (w *walk) whole(goal api.Grant, deep int) (e api.Errno) {
	defer func() {
		if r := recover(); r != nil {
			e = r.(api.Errno)
		}
	}()
	w.unfold(goal, deep)
	return api.OK
}

func (w *walk) unfold(at api.Grant, deep int) {
	g := grower{rewrite: w.model.Rewrite(w.model.Number(at.Object.Type, at.Rel))}
	w.grow(at, g.grow(), deep)
}

// grow leaves a node's branch, and those of what is unfolded in its place.
func (w *walk) grow(at api.Grant, n look, deep int) {
	b := n.branch(at)
	switch n := n.(type) {
	case this:
		w.growThis(b)
	case same:
		w.growSame(b, deep)
	case from:
		w.growFrom(b, n.rel, deep)
	case joined:
		w.add(b)
		for _, kid := range n.kids {
			w.grow(at, kid, deep)
		}
	}
}

func (w *walk) growThis(b api.Branch) {
	l := w.counted(b.Place)
	if w.subjects += len(l); w.subjects > api.MaxTuples {
		panic(api.ErrLong)
	}
	b.Subjects = slices.Clone(l)
	w.add(b)
}

func (w *walk) growSame(b api.Branch, deep int) {
	if deep == 1 {
		b.Cut = true
		w.add(b)
		return
	}
	b.Kids = 1
	w.add(b)
	w.unfold(b.Place, deep-1)
}

func (w *walk) growFrom(b api.Branch, rel string, deep int) {
	l := w.leadsTo(b.Place, rel)
	if deep == 1 {
		b.Cut = len(l) > 0
		w.add(b)
		return
	}
	for _, part := range l {
		b.Kids += len(part)
	}
	w.add(b)
	for _, part := range l {
		for _, s := range part {
			w.unfold(api.Grant{Object: api.Object{Type: s.Type, Id: s.Id}, Rel: rel}, deep-1)
		}
	}
}

func (w *walk) add(b api.Branch) {
	if len(w.branches) == api.MaxBranches {
		panic(api.ErrLong)
	}
	w.branches = append(w.branches, b)
}

// leadsTo are those to whom a way leads and whose type has the relation, part by part: those of one type stand together, and a way may lead to very many that come to nothing here. (Whom a way names are ones.)
func (w *walk) leadsTo(way api.Grant, rel string) [][]api.Subject {
	var parts [][]api.Subject
	for l := w.counted(way); len(l) > 0; {
		end := sort.Search(len(l), func(i int) bool { return l[i].Type > l[0].Type })
		if isPlace(w.model, l[0].Type, rel) {
			parts = append(parts, l[:end])
		}
		l = l[end:]
	}
	return parts
}

// counted are the subjects of the tuples of an object and a relation that count. Tuples of one object and one relation rise as their subjects do.
func (w *walk) counted(at api.Grant) []api.Subject {
	l, isKnown := w.known[at]
	if !isKnown {
		for t := range w.src.Of(at.Object, at.Rel) {
			if w.counts(t) {
				l = append(l, t.Subject)
			}
		}
		w.known[at] = l
	}
	return l
}

// counts says whether a tuple's condition is met, if it names one.
func (w *walk) counts(t api.Tuple) bool {
	if t.Cond == "" {
		return true
	}
	c, _ := w.model.Cond(t.Cond)
	args, _ := values.Merge(t.Args, w.ctx)
	met, _ := conds.Eval(c, args)
	return met.Known && met.Met
}
