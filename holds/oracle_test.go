package holds_test

import (
	"slices"
	"strings"

	"latchkey/api"
	"latchkey/conds"
	"latchkey/schema"
	"latchkey/store"
)

// What the chapter says, said another way than the package says it: the least sets are searched for by asking every place of every object, again and again, what its rewrite says, of all tuples, until nothing is new.

type plain struct {
	model   *schema.Model
	facts   []api.Tuple // those that count
	objects []api.Object
	s       api.Subject
	grants  map[api.Grant]int
	came    map[string]int // how often something let the subject in, or took it away
}

// plainOf are the grants of s, by strata.
func plainOf(src store.Source, s api.Subject, ctx []api.Arg, came map[string]int) [][]api.Grant {
	p := &plain{model: src.Model(), objects: objectsOf(src), s: s, grants: map[api.Grant]int{}, came: came}
	for x := range src.All() {
		if plainCounts(p.model, x, ctx) {
			p.facts = append(p.facts, x)
		} else {
			came["a tuple that doesn't count"]++
		}
	}
	if s.Rel != "" {
		p.objects = append(p.objects, api.Object{Type: s.Type, Id: s.Id})
	}
	var all [][]api.Grant
	for level := 0; p.hasStratum(level); level++ {
		for p.goOn(level) {
		}
		all = append(all, p.ofStratum(level))
	}
	return all
}

func plainCounts(m *schema.Model, x api.Tuple, ctx []api.Arg) bool {
	if x.Cond == "" {
		return true
	}
	args := slices.Clone(x.Args)
	for _, a := range ctx {
		if !slices.ContainsFunc(x.Args, func(own api.Arg) bool { return own.Name == a.Name }) {
			args = append(args, a)
		}
	}
	slices.SortFunc(args, func(a, b api.Arg) int { return strings.Compare(a.Name, b.Name) })
	c, _ := m.Cond(x.Cond)
	met, _ := conds.Eval(c, args)
	return met.Known && met.Met
}

func (p *plain) hasStratum(level int) bool {
	for n := range p.model.Places() {
		if p.model.Stratum(n) == level {
			return true
		}
	}
	return false
}

// goOn takes in what the grants so far say, and tells whether something was new.
func (p *plain) goOn(level int) bool {
	isNew := false
	for n, place := range p.model.Places() {
		if p.model.Stratum(n) != level {
			continue
		}
		for _, o := range p.objects {
			g := api.Grant{Object: o, Rel: place.Rel}
			if o.Type != place.Type || p.grants[g] > 0 {
				continue
			}
			isOwn := p.s == api.Subject{Type: o.Type, Id: o.Id, Rel: place.Rel}
			yes, _ := p.lets(p.model.Rewrite(n), place, o)
			if isOwn && !yes {
				p.came["a set that has itself alone"]++
			}
			if isOwn || yes {
				p.grants[g]++
				isNew = true
			}
		}
	}
	return isNew
}

// lets says whether the first tree of nodes lets the subject in at o, and what stands behind that tree.
func (p *plain) lets(l []api.Node, place api.Place, o api.Object) (bool, []api.Node) {
	n, rest := l[0], l[1:]
	switch n.Kind {
	case api.NodeThis:
		return p.letsThis(place, o), rest
	case api.NodeSame:
		return p.grants[api.Grant{Object: o, Rel: n.Rel}] > 0, rest
	case api.NodeFrom:
		return p.letsFrom(n, o), rest
	}
	var kids []bool
	for range n.Kids {
		var kid bool
		kid, rest = p.lets(rest, place, o)
		kids = append(kids, kid)
	}
	switch n.Kind {
	case api.NodeOr:
		return slices.Contains(kids, true), rest
	case api.NodeAnd:
		return !slices.Contains(kids, false), rest
	}
	if kids[0] && kids[1] {
		p.came["what is taken away"]++
	}
	return kids[0] && !kids[1], rest
}

func (p *plain) letsThis(place api.Place, o api.Object) bool {
	for _, x := range p.facts {
		if x.Object != o || x.Rel != place.Rel {
			continue
		}
		name := ""
		switch {
		case x.Subject == p.s:
			name = "the subject itself"
		case x.Subject.Id == "*" && p.s.Rel == "" && x.Subject.Type == p.s.Type:
			name = "all of the type"
		case x.Subject.Rel != "" && p.grants[api.Grant{Object: api.Object{Type: x.Subject.Type, Id: x.Subject.Id}, Rel: x.Subject.Rel}] > 0:
			name = "a set"
		default:
			continue
		}
		p.came[name]++
		return true
	}
	return false
}

func (p *plain) letsFrom(n api.Node, o api.Object) bool {
	for _, x := range p.facts {
		isWay := x.Object == o && x.Rel == n.From && x.Subject.Rel == "" && x.Subject.Id != "*"
		if isWay && p.grants[api.Grant{Object: api.Object{Type: x.Subject.Type, Id: x.Subject.Id}, Rel: n.Rel}] > 0 {
			p.came["from"]++
			return true
		}
	}
	return false
}

func (p *plain) ofStratum(level int) []api.Grant {
	var l []api.Grant
	for g := range p.grants {
		if p.model.Stratum(p.model.Number(g.Object.Type, g.Rel)) == level {
			l = append(l, g)
		}
	}
	slices.SortFunc(l, order)
	return l
}

// together are all grants of some layers.
func together(l [][]api.Grant) []api.Grant {
	all := slices.Concat(l...)
	slices.SortFunc(all, order)
	return all
}
