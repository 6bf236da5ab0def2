package unfold_test

import (
	"slices"
	"strings"

	"latchkey/api"
	"latchkey/conds"
	"latchkey/ident"
	"latchkey/schema"
	"latchkey/store"
)

// What the chapter's table says, said straight: each unfolding is put together of others, from all tuples anew.

type plain struct {
	model    *schema.Model
	facts    []api.Tuple // those that count
	branches []api.Branch
	isOut    bool // of all that may be told
	came     map[string]int
}

// plainOf is the unfolding of g, or ErrLong.
func plainOf(src store.Source, g api.Grant, ctx []api.Arg, deep int, came map[string]int) ([]api.Branch, api.Errno) {
	p := &plain{model: src.Model(), came: came}
	for x := range src.All() {
		if plainCounts(p.model, x, ctx) {
			p.facts = append(p.facts, x)
		} else {
			came["a tuple that doesn't count"]++
		}
	}
	p.unfold(g, deep)
	subjects := 0
	for _, b := range p.branches {
		subjects += len(b.Subjects)
	}
	if p.isOut || subjects > api.MaxTuples {
		return nil, api.ErrLong
	}
	return p.branches, api.OK
}

func plainCounts(m *schema.Model, x api.Tuple, ctx []api.Arg) bool {
	if x.Cond == "" {
		return true
	}
	args := slices.Clone(x.Args)
	for _, a := range ctx {
		if !slices.ContainsFunc(x.Args, func(own api.Arg) bool { return own.Name == a.Name }) {
			args = append(args, a)
		}
	}
	slices.SortFunc(args, func(a, b api.Arg) int { return strings.Compare(a.Name, b.Name) })
	c, _ := m.Cond(x.Cond)
	met, _ := conds.Eval(c, args)
	return met.Known && met.Met
}

func (p *plain) unfold(g api.Grant, deep int) {
	p.node(g, p.model.Rewrite(p.model.Number(g.Object.Type, g.Rel)), deep)
}

// node puts the branches of the first tree of nodes behind the others, and answers what stands behind that tree.
func (p *plain) node(g api.Grant, l []api.Node, deep int) []api.Node {
	if p.isOut = p.isOut || len(p.branches) == api.MaxBranches; p.isOut {
		return l
	}
	n, rest := l[0], l[1:]
	at := len(p.branches)
	b := api.Branch{Kind: n.Kind, Place: g}
	p.branches = append(p.branches, b)
	switch n.Kind {
	case api.NodeThis:
		b.Subjects = p.named(g)
	case api.NodeSame:
		b.Place.Rel = n.Rel
		if b.Cut = deep == 1; !b.Cut {
			b.Kids++
			p.unfold(b.Place, deep-1)
		}
	case api.NodeFrom:
		b.Place.Rel = n.From
		for _, s := range p.named(b.Place) {
			if s.Rel != "" || s.Id == "*" || p.model.Number(s.Type, n.Rel) < 0 {
				p.came["one of a type without the relation"]++
			} else if deep == 1 {
				b.Cut = true
			} else {
				b.Kids++
				p.unfold(api.Grant{Object: api.Object{Type: s.Type, Id: s.Id}, Rel: n.Rel}, deep-1)
			}
		}
	default:
		for range n.Kids {
			b.Kids++
			rest = p.node(g, rest, deep)
			if p.isOut {
				return rest
			}
		}
	}
	p.note(b)
	p.branches[at] = b
	return rest
}

// named are the subjects of the tuples of an object and a relation that count, rising.
func (p *plain) named(g api.Grant) []api.Subject {
	var l []api.Subject
	for _, x := range p.facts {
		if x.Object == g.Object && x.Rel == g.Rel {
			l = append(l, x.Subject)
		}
	}
	slices.SortFunc(l, ident.CompareSubjects)
	return l
}

// note notes what came up.
func (p *plain) note(b api.Branch) {
	name := kindNames()[b.Kind]
	switch {
	case b.Cut:
		name += " cut"
	case b.Kind == api.NodeFrom:
		name += [...]string{" to nobody", " to one", " to several"}[min(b.Kids, 2)]
	case b.Kind == api.NodeThis:
		name += [...]string{" of nobody", " of one", " of several"}[min(len(b.Subjects), 2)]
	}
	p.came[name]++
}

// Whom a tree of branches names, said of one subject at a time.

// isNamed says whether the first tree names s, and what stands behind that tree.
func isNamed(l []api.Branch, s api.Subject) (bool, []api.Branch) {
	return says(l, func(b api.Branch) bool { return slices.Contains(b.Subjects, s) })
}

// says is what the first tree says, if a NodeThis says that; and what stands behind that tree.
func says(l []api.Branch, this func(b api.Branch) bool) (bool, []api.Branch) {
	b, rest := l[0], l[1:]
	if b.Kind == api.NodeThis {
		return this(b), rest
	}
	var kids []bool
	for range b.Kids {
		var kid bool
		kid, rest = says(rest, this)
		kids = append(kids, kid)
	}
	switch b.Kind {
	case api.NodeAnd:
		return !slices.Contains(kids, false), rest
	case api.NodeNot:
		return kids[0] && !kids[1], rest
	}
	return slices.Contains(kids, true), rest
}

// plainSubjects are all whom a tree names, rising.
func plainSubjects(l []api.Branch) []api.Subject {
	asked := map[api.Subject]int{}
	var all []api.Subject
	for _, b := range l {
		for _, s := range b.Subjects {
			if asked[s]++; asked[s] > 1 {
				continue
			}
			if yes, _ := isNamed(l, s); yes {
				all = append(all, s)
			}
		}
	}
	slices.SortFunc(all, ident.CompareSubjects)
	return all
}
