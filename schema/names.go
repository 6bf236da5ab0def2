package schema

import (
	"latchkey/api"
	"latchkey/conds"
)

// none is the number of what isn't there, and stands in a Fault for what isn't told.
const none = -1

// What a name can stand for.
const (
	aType = iota + 1
	aRelation
	aCond
)

// name is a name beside what it stands for, since types, relations and conditions may be called alike, and so may relations of several types.
type name struct {
	kind  int
	of    string // the type of a relation
	named string
}

func typeName(typ string) name { return name{kind: aType, named: typ} }

func relationName(typ, rel string) name { return name{kind: aRelation, of: typ, named: rel} }

func condName(cond string) name { return name{kind: aCond, named: cond} }

// number answers the number of the type, the place or the condition of that name.
func (m *Model) number(x name) int {
	if n, ok := m.names[x]; ok {
		return n
	}
	return none
}

// take lets a name stand for a number; false, if it stands for one already.
func (m *Model) take(x name, number int) bool {
	if m.number(x) != none {
		return false
	}
	m.names[x] = number
	return true
}

// takeNames numbers types, places and conditions, or tells the first name that stands there twice.
func (m *Model) takeNames() api.Fault {
	for i, t := range m.schema.Types {
		if !m.take(typeName(t.Name), i) {
			return api.Fault{Err: api.ErrTwice, What: i, Part: none, Node: none}
		}
		for k, r := range t.Relations {
			if !m.take(relationName(t.Name, r.Name), len(m.seats)) {
				return api.Fault{Err: api.ErrTwice, What: i, Part: k, Node: none}
			}
			m.seats = append(m.seats, seat{typ: i, rel: k})
		}
	}
	for i, c := range m.schema.Conds {
		if !m.take(condName(c.Name), i) {
			return api.Fault{Err: api.ErrTwice, What: m.condWhat(i), Part: none, Node: none}
		}
	}
	return api.Fault{}
}

// takeConds tells the first fault of a condition.
func (m *Model) takeConds() api.Fault {
	for i, c := range m.schema.Conds {
		if f := conds.Check(c); f.Err != api.OK {
			f.What = m.condWhat(i)
			return f
		}
	}
	return api.Fault{}
}

// condWhat is how a Fault counts a condition: on behind the types.
func (m *Model) condWhat(i int) int {
	return len(m.schema.Types) + i
}
