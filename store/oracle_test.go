package store_test

import (
	"maps"
	"slices"

	"latchkey/api"
	"latchkey/ident"
	"latchkey/schema"
	"latchkey/tuples"
)

// What the chapter says, said another way than the package says it: every revision that ever was, whole, as a map from keys to tuples, gone through from end to end for each question.

type key struct {
	object  api.Object
	rel     string
	subject api.Subject
}

func keyOf(x api.Tuple) key { return key{x.Object, x.Rel, x.Subject} }

func keyAlone(x api.Tuple) api.Tuple {
	return api.Tuple{Object: x.Object, Rel: x.Rel, Subject: x.Subject}
}

type plainRev struct {
	model  *schema.Model
	facts  map[key]api.Tuple
	commit api.Commit // its Kind is 0 of the start
}

type plain struct {
	limits api.Limits
	start  int64
	oldest int64
	revs   []plainRev // from the start on
}

func plainOf(m *schema.Model, lim api.Limits, start int64) *plain {
	return &plain{lim, start, start, []plainRev{{model: m, facts: map[key]api.Tuple{}}}}
}

func (p *plain) newest() int64 { return p.start + int64(len(p.revs)) - 1 }

func (p *plain) last() plainRev { return p.revs[len(p.revs)-1] }

func (p *plain) at(rev int64) (plainRev, api.Errno) {
	switch {
	case rev > p.newest():
		return plainRev{}, api.ErrFuture
	case rev < p.oldest:
		return plainRev{}, api.ErrGone
	}
	return p.revs[rev-p.start], api.OK
}

func (p *plain) commit(rev int64) (api.Commit, api.Errno) {
	r, e := p.at(rev)
	if e == api.OK && rev == p.start {
		e = api.ErrGone
	}
	return r.commit, e
}

func (p *plain) take(r plainRev) int64 {
	r.commit.Rev = p.newest() + 1
	p.revs = append(p.revs, r)
	if p.newest()-p.oldest+1 > int64(p.limits.Keep) {
		p.oldest++
	}
	return p.newest()
}

func (p *plain) trim(oldest int64) api.Errno {
	if oldest < p.oldest || oldest > p.newest() {
		return api.ErrArg
	}
	p.oldest = oldest
	return api.OK
}

func (p *plain) change(m *schema.Model) (int64, api.Errno) {
	if p.newest() == api.MaxRev {
		return 0, api.ErrEnd
	}
	for _, x := range p.last().facts {
		if tuples.Check(m, x) != api.OK {
			return 0, api.ErrBreaks
		}
	}
	return p.take(plainRev{m, p.last().facts, api.Commit{Kind: api.CommitSchema, Schema: m.Schema()}}), api.OK
}

func (p *plain) write(l []api.Change, pres []api.Pre) (int64, api.Errno) {
	m, was := p.last().model, p.last().facts
	if len(l) > 256 || len(pres) > 16 {
		return 0, api.ErrLong
	}
	if p.newest() == api.MaxRev {
		return 0, api.ErrEnd
	}
	met := map[key]bool{}
	for _, c := range l {
		if e := lookedAt(m, c); e != api.OK {
			return 0, e
		}
		if met[keyOf(c.Tuple)] {
			return 0, api.ErrTwice
		}
		met[keyOf(c.Tuple)] = true
	}
	for _, pre := range pres {
		if letsSome(was, pre.Filter) != pre.Must {
			return 0, api.ErrPre
		}
	}
	now, told := maps.Clone(was), []api.Change(nil)
	for _, c := range l {
		_, there := was[keyOf(c.Tuple)]
		switch {
		case c.Kind == api.ChangeInsert && there:
			return 0, api.ErrThere
		case c.Kind == api.ChangeDelete && !there:
			return 0, api.ErrAbsent
		case c.Kind == api.ChangeDelete:
			delete(now, keyOf(c.Tuple))
			c.Tuple = keyAlone(c.Tuple)
		default:
			now[keyOf(c.Tuple)] = c.Tuple
		}
		told = append(told, c)
	}
	if len(now) > p.limits.Tuples {
		return 0, api.ErrFull
	}
	return p.take(plainRev{m, now, api.Commit{Kind: api.CommitWrite, Changes: told}}), api.OK
}

func lookedAt(m *schema.Model, c api.Change) api.Errno {
	switch c.Kind {
	case api.ChangeInsert, api.ChangeTouch:
		return tuples.Check(m, c.Tuple)
	case api.ChangeDelete:
		return askedOf(m.Schema(), c.Tuple)
	}
	return api.ErrArg
}

// askedOf says why a delete may not be asked, by the schema as it is written.
func askedOf(s api.Schema, x api.Tuple) api.Errno {
	typ, isType := typeOf(s, x.Object.Type)
	rel, isRelation := relationOf(typ, x.Rel)
	subjects, isSubject := typeOf(s, x.Subject.Type)
	if kind := ident.Kind(x.Subject); kind == api.SubSet {
		_, isSet := relationOf(subjects, x.Subject.Rel)
		isSubject = isSubject && isSet
	} else if kind == api.SubNone {
		isSubject = false
	}
	switch {
	case !isType:
		return api.ErrType
	case !ident.Id(x.Object.Id):
		return api.ErrId
	case !isRelation:
		return api.ErrRelation
	case !isSubject:
		return api.ErrSubject
	}
	for _, n := range rel.Rewrite {
		for _, a := range n.Allow {
			if a.Type == x.Subject.Type && a.Rel == x.Subject.Rel && a.All == (x.Subject.Id == "*") {
				return api.OK
			}
		}
	}
	return api.ErrAllowed
}

func typeOf(s api.Schema, name string) (api.Type, bool) {
	i := slices.IndexFunc(s.Types, func(x api.Type) bool { return x.Name == name })
	if i < 0 {
		return api.Type{}, false
	}
	return s.Types[i], true
}

func relationOf(x api.Type, name string) (api.Relation, bool) {
	i := slices.IndexFunc(x.Relations, func(r api.Relation) bool { return r.Name == name })
	if i < 0 {
		return api.Relation{}, false
	}
	return x.Relations[i], true
}

func forward(x api.Tuple) []string {
	return []string{x.Object.Type, x.Object.Id, x.Rel, x.Subject.Type, x.Subject.Id, x.Subject.Rel}
}

func backward(x api.Tuple) []string {
	return []string{x.Subject.Type, x.Subject.Id, x.Subject.Rel, x.Object.Type, x.Object.Id, x.Rel}
}

// sorted are the tuples of which it is so, by an order.
func sorted(facts map[key]api.Tuple, by func(api.Tuple) []string, is func(api.Tuple) bool) []api.Tuple {
	var l []api.Tuple
	for _, x := range facts {
		if is(x) {
			l = append(l, x)
		}
	}
	slices.SortFunc(l, func(a, b api.Tuple) int { return slices.Compare(by(a), by(b)) })
	return l
}

func lets(f api.Filter, x api.Tuple) bool {
	has := append(forward(x), x.Cond)
	for i, s := range []string{f.Type, f.Id, f.Rel, f.Subject.Type, f.Subject.Id, f.Subject.Rel, f.Cond} {
		if s != "" && s != has[i] {
			return false
		}
	}
	return true
}

func letsSome(facts map[key]api.Tuple, f api.Filter) bool {
	for _, x := range facts {
		if lets(f, x) {
			return true
		}
	}
	return false
}

func (p *plain) read(rev int64, f api.Filter, after api.Tuple, size int) ([]api.Tuple, bool, api.Errno) {
	r, e := p.at(rev)
	if e == api.OK && (size < 1 || size > 1000) {
		e = api.ErrArg
	}
	if e != api.OK {
		return nil, false, e
	}
	l := sorted(r.facts, forward, func(x api.Tuple) bool {
		return lets(f, x) && slices.Compare(forward(x), forward(after)) > 0
	})
	return l[:min(size, len(l))], len(l) > size, api.OK
}
