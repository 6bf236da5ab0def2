package store

import (
	"slices"

	"latchkey/api"
	"latchkey/shelf"
	"latchkey/tuples"
)

// draft is the next revision while a write makes it of the newest one. If something is refused, it is thrown away.
type draft struct {
	newest  *Snap
	next    Snap
	keys    *shelf.Shelf[api.Tuple] // those of the changes that were looked at
	changes []api.Change            // those that were made, as the commit tells them
}

// step says why a change of that tuple is refused.
type step func(d *draft, t api.Tuple) api.Errno

// kind is how the changes of one kind are looked at, with the model alone, and how they are made.
type kind struct {
	look step
	do   step
}

// byKind has one for each kind of changes.
type byKind [api.ChangeTouch + 1]kind

func kinds() byKind {
	return byKind{
		api.ChangeInsert: {(*draft).lookAtTuple, (*draft).insert},
		api.ChangeDelete: {(*draft).lookAtKey, (*draft).remove},
		api.ChangeTouch:  {(*draft).lookAtTuple, (*draft).touch},
	}
}

func draftOf(newest *Snap) *draft {
	return &draft{newest: newest, next: newest.following(), keys: shelf.New(tuples.Compare)}
}

// write makes all changes, or tells the first reason not to; most is how many tuples there may be.
func (d *draft) write(l []api.Change, pres []api.Pre, most int) api.Errno {
	by := kinds()
	for _, c := range l {
		if e := d.lookAt(c, by); e != api.OK {
			return e
		}
	}
	for _, p := range pres {
		if d.newest.has(p.Filter) != p.Must {
			return api.ErrPre
		}
	}
	d.changes = make([]api.Change, 0, len(l))
	for _, c := range l {
		c.Tuple = kept(c)
		if e := by[c.Kind].do(d, c.Tuple); e != api.OK {
			return e
		}
		d.changes = append(d.changes, c)
	}
	if d.next.Len() > most {
		return api.ErrFull
	}
	return api.OK
}

// lookAt says why a change is refused whatever tuples are there.
func (d *draft) lookAt(c api.Change, by byKind) api.Errno {
	if c.Kind < api.ChangeInsert || c.Kind > api.ChangeTouch {
		return api.ErrArg
	}
	if e := by[c.Kind].look(d, c.Tuple); e != api.OK {
		return e
	}
	if !d.keys.Add(c.Tuple) {
		return api.ErrTwice
	}
	return api.OK
}

// kept is the tuple of a change as the store keeps it: of a delete the key alone.
func kept(c api.Change) api.Tuple {
	if c.Kind == api.ChangeDelete {
		return keyOf(c.Tuple)
	}
	return own(c.Tuple)
}

func (d *draft) lookAtTuple(t api.Tuple) api.Errno {
	return tuples.Check(d.newest.model, t)
}

// lookAtKey says why a delete may not be asked. Only where a tuple without a Cond isn't let in must the allowances be asked, whatever their Cond.
func (d *draft) lookAtKey(t api.Tuple) api.Errno {
	m := d.newest.model
	e := tuples.Check(m, keyOf(t))
	if e != api.ErrAllowed {
		return e
	}
	isAllowed := slices.ContainsFunc(m.Allows(m.Number(t.Object.Type, t.Rel)), func(a api.Allow) bool {
		a.Cond = ""
		return a == api.Allow{Type: t.Subject.Type, Rel: t.Subject.Rel, All: t.Subject.Id == "*"}
	})
	if !isAllowed {
		return e
	}
	return api.OK
}

// insert lays a tuple in whose key isn't there. No other change has its key, so what is there now was there in the newest revision.
func (d *draft) insert(t api.Tuple) api.Errno {
	if d.next.facts.put(t) {
		return api.ErrThere
	}
	return api.OK
}

func (d *draft) remove(t api.Tuple) api.Errno {
	if !d.next.facts.remove(t) {
		return api.ErrAbsent
	}
	return api.OK
}

func (d *draft) touch(t api.Tuple) api.Errno {
	d.next.facts.put(t)
	return api.OK
}
