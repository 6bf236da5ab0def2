package routes_test

import (
	"math/rand"
	"slices"

	"latchkey/api"
	"latchkey/schema"
	"latchkey/syntax"
	"latchkey/tuples"
)

// maker makes models, tuples and questions. A relation's name says its level; of a maker that has nots, rewrites speak of no higher level than their own, and take away what is lower, so that there are no bad rings.
type maker struct {
	*rand.Rand
	nots    bool
	schema  api.Schema
	typ     int
	level   int
	hasThis bool
}

// levels are the relations' names, and their levels; w is a way.
func levels() map[string]int {
	return map[string]int{"w": 0, "p": 0, "q": 0, "r": 1, "u": 1, "v": 2}
}

func relNames() []string { return []string{"w", "p", "q", "r", "u", "v"} }

// condsText are the conditions of all models that are made.
const condsText = `cond c(n: int): n > 1
cond d(n: int, s: text): n > 0 and s == "x"
cond e(): true
cond f(n: int): 10 / n > 3`

func (c *maker) isOneOf(n int) bool { return c.Intn(n) == 0 }

// model is one that schema.Of takes.
func (c *maker) model() *schema.Model {
	for {
		s, _ := syntax.Parse(condsText)
		s.Types = []api.Type{{Name: "user"}, {Name: "team"}, {Name: "doc"}, {Name: "box"}}
		c.schema = s
		for i := range s.Types[1:] {
			for _, name := range relNames() {
				if c.Intn(4) > 0 {
					t := &s.Types[i+1]
					t.Relations = append(t.Relations, api.Relation{Name: name})
				}
			}
		}
		for i, t := range s.Types {
			for k, r := range t.Relations {
				c.typ, c.level, c.hasThis = i, levels()[r.Name], false
				if r.Name == "w" {
					t.Relations[k].Rewrite = []api.Node{{Kind: api.NodeThis, Allow: c.allows(-1, true)}}
				} else {
					t.Relations[k].Rewrite = c.rewrite(3, c.level)
				}
			}
		}
		if m, fault := schema.Of(s); fault.Err == api.OK {
			return m
		}
	}
}

// rewrite is one no deeper than that, and of no place above that level.
func (c *maker) rewrite(deep, most int) []api.Node {
	if deep == 0 || c.isOneOf(3) {
		return []api.Node{c.leaf(most)}
	}
	n := api.Node{Kind: api.NodeOr, Kids: 2 + c.Intn(2)}
	switch {
	case c.nots && c.isOneOf(3):
		n = api.Node{Kind: api.NodeNot, Kids: 2}
	case c.isOneOf(3):
		n.Kind = api.NodeAnd
	}
	l := []api.Node{n}
	for i := range n.Kids {
		if n.Kind == api.NodeNot && i == 1 {
			most = c.level - 1
		}
		l = append(l, c.rewrite(deep-1, most)...)
	}
	return l
}

func (c *maker) leaf(most int) api.Node {
	own := c.schema.Types[c.typ].Relations
	same := c.relation(own, most)
	switch {
	case !c.hasThis && (same == "" || c.Intn(2) == 0):
		c.hasThis = true
		return api.Node{Kind: api.NodeThis, Allow: c.allows(most, false)}
	case own[0].Name == "w" && c.Intn(2) == 0:
		if rel := c.relation(c.schema.Types[1+c.Intn(3)].Relations, most); rel != "" {
			return api.Node{Kind: api.NodeFrom, Rel: rel, From: "w"}
		}
	}
	// Where there is none, the model is refused and another one made.
	return api.Node{Kind: api.NodeSame, Rel: same}
}

// relation is one of these of no higher level; without nots any.
func (c *maker) relation(l []api.Relation, most int) string {
	var names []string
	for _, r := range l {
		if !c.nots || levels()[r.Name] <= most {
			names = append(names, r.Name)
		}
	}
	if len(names) == 0 {
		return ""
	}
	return names[c.Intn(len(names))]
}

func (c *maker) allows(most int, isWay bool) []api.Allow {
	var l []api.Allow
	for range 1 + c.Intn(5) {
		t := c.schema.Types[c.Intn(len(c.schema.Types))]
		a := api.Allow{Type: t.Name}
		switch kind := c.Intn(4); {
		case isWay:
		case kind == 0:
			a.All = true
		case kind > 1:
			a.Rel = c.relation(t.Relations, most)
		}
		if c.isOneOf(3) {
			a.Cond = []string{"c", "d", "e", "f"}[c.Intn(4)]
		}
		if !slices.Contains(l, a) {
			l = append(l, a)
		}
	}
	return l
}

func (c *maker) id() string { return []string{"1", "2", "3"}[c.Intn(3)] }

// args are some that tuples or questions may have, of what the conditions ask for and beside it.
func (c *maker) args(wild bool) []api.Arg {
	var l []api.Arg
	if c.isOneOf(2) {
		l = append(l, whole("n", int64(c.Intn(5))))
		if wild && c.isOneOf(6) {
			l[0].Value = api.Value{Kind: api.ValText, Text: "2"}
		}
	}
	if c.isOneOf(2) {
		l = append(l, api.Arg{Name: "s", Value: api.Value{Kind: api.ValText, Text: []string{"x", "y"}[c.Intn(2)]}})
	}
	if wild && c.isOneOf(4) {
		l = append(l, whole("z", 1))
	}
	return l
}

// facts are tuples that fit, no two of one key.
func (c *maker) facts(m *schema.Model, n int) []api.Tuple {
	var l []api.Tuple
	places := m.Places()
	for range n {
		place := c.Intn(len(places))
		allows := m.Allows(place)
		if len(allows) == 0 {
			continue
		}
		a := allows[c.Intn(len(allows))]
		x := api.Tuple{Object: api.Object{Type: places[place].Type, Id: c.id()}, Rel: places[place].Rel, Subject: api.Subject{Type: a.Type, Id: c.id(), Rel: a.Rel}, Cond: a.Cond}
		if a.All {
			x.Subject.Id = "*"
		}
		if x.Args = c.args(false); x.Cond == "" || tuples.Check(m, x) != api.OK {
			x.Args = nil
		}
		if tuples.Check(m, x) != api.OK {
			panic("a tuple that doesn't fit")
		}
		if !slices.ContainsFunc(l, func(y api.Tuple) bool { return tuples.Compare(x, y) == 0 }) {
			l = append(l, x)
		}
	}
	return l
}

// subjects are all that can have something: ones and sets, also such as no tuple names.
func subjects(m *schema.Model) []api.Subject {
	return subjectsOf(m, "1", "2", "3", "4")
}

// subjectsOf are those of them that are called so.
func subjectsOf(m *schema.Model, ids ...string) []api.Subject {
	var l []api.Subject
	for _, t := range m.Schema().Types {
		for _, id := range ids {
			l = append(l, api.Subject{Type: t.Name, Id: id})
			for _, r := range t.Relations {
				l = append(l, api.Subject{Type: t.Name, Id: id, Rel: r.Name})
			}
		}
	}
	return l
}
