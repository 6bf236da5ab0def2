package overlay_test

import (
	"maps"
	"slices"

	"latchkey/api"
	"latchkey/ident"
	"latchkey/schema"
	"latchkey/tuples"
)

// What the chapter says, said another way than the package says it: a source is a map from keys to tuples, and is gone through from end to end for each question.

type key struct {
	object  api.Object
	rel     string
	subject api.Subject
}

func keyOf(x api.Tuple) key { return key{x.Object, x.Rel, x.Subject} }

type plain struct {
	model *schema.Model
	facts map[key]api.Tuple
}

func plainOf(m *schema.Model, l []api.Tuple) plain {
	p := plain{m, map[key]api.Tuple{}}
	for _, x := range l {
		p.facts[keyOf(x)] = x
	}
	return p
}

// over is what is laid over p, or why it isn't.
func (p plain) over(more, less []api.Tuple) (plain, api.Errno) {
	if len(more)+len(less) > 64 {
		return plain{}, api.ErrLong
	}
	up, met := plain{p.model, maps.Clone(p.facts)}, map[key]bool{}
	for _, x := range more {
		if e := tuples.Check(p.model, x); e != api.OK {
			return plain{}, e
		}
		if met[keyOf(x)] {
			return plain{}, api.ErrTwice
		}
		met[keyOf(x)] = true
		up.facts[keyOf(x)] = x
	}
	for _, x := range less {
		if e := askedOf(p.model.Schema(), x); e != api.OK {
			return plain{}, e
		}
		if met[keyOf(x)] {
			return plain{}, api.ErrTwice
		}
		met[keyOf(x)] = true
		delete(up.facts, keyOf(x))
	}
	return up, api.OK
}

// askedOf says why a delete may not be asked, by the schema as it is written.
func askedOf(s api.Schema, x api.Tuple) api.Errno {
	typ, isType := typeOf(s, x.Object.Type)
	rel, isRelation := relationOf(typ, x.Rel)
	subjects, isSubject := typeOf(s, x.Subject.Type)
	if kind := ident.Kind(x.Subject); kind == api.SubSet {
		_, isSet := relationOf(subjects, x.Subject.Rel)
		isSubject = isSubject && isSet
	} else if kind == api.SubNone {
		isSubject = false
	}
	switch {
	case !isType:
		return api.ErrType
	case !ident.Id(x.Object.Id):
		return api.ErrId
	case !isRelation:
		return api.ErrRelation
	case !isSubject:
		return api.ErrSubject
	}
	for _, n := range rel.Rewrite {
		for _, a := range n.Allow {
			if a.Type == x.Subject.Type && a.Rel == x.Subject.Rel && a.All == (x.Subject.Id == "*") {
				return api.OK
			}
		}
	}
	return api.ErrAllowed
}

func typeOf(s api.Schema, name string) (api.Type, bool) {
	i := slices.IndexFunc(s.Types, func(x api.Type) bool { return x.Name == name })
	if i < 0 {
		return api.Type{}, false
	}
	return s.Types[i], true
}

func relationOf(x api.Type, name string) (api.Relation, bool) {
	i := slices.IndexFunc(x.Relations, func(r api.Relation) bool { return r.Name == name })
	if i < 0 {
		return api.Relation{}, false
	}
	return x.Relations[i], true
}

func forward(x api.Tuple) []string {
	return []string{x.Object.Type, x.Object.Id, x.Rel, x.Subject.Type, x.Subject.Id, x.Subject.Rel}
}

func backward(x api.Tuple) []string {
	return []string{x.Subject.Type, x.Subject.Id, x.Subject.Rel, x.Object.Type, x.Object.Id, x.Rel}
}

// sorted are the tuples of which it is so, by an order.
func (p plain) sorted(by func(api.Tuple) []string, is func(api.Tuple) bool) []api.Tuple {
	var l []api.Tuple
	for _, x := range p.facts {
		if is(x) {
			l = append(l, x)
		}
	}
	slices.SortFunc(l, func(a, b api.Tuple) int { return slices.Compare(by(a), by(b)) })
	return l
}
