package check_test

import (
	"slices"
	"testing"

	"latchkey/api"
	"latchkey/store"
)

// P17.5: a set has its relation to its own object, whatever its rewrite says and whether a tuple names it or not.
func TestSetHasItsOwn(t *testing.T) {
	for n := range int64(60) {
		c := &maker{Rand: seeded(1<<30 + n), nots: true}
		m := c.model()
		src := snapWith(t, m, c.facts(m, 20))
		for _, s := range subjects(m) {
			if s.Rel == "" {
				continue
			}
			own := api.Grant{Object: api.Object{Type: s.Type, Id: s.Id}, Rel: s.Rel}
			if !has(t, src, s, nil, own) {
				t.Fatalf("%s hasn't itself", subjectText(s))
			}
		}
	}
}

// letsBy is what a rewrite says, of the answers to what it is made of.
func letsBy(t *testing.T, src store.Source, s api.Subject, ctx []api.Arg, o api.Object, rel string, l []api.Node) (bool, []api.Node) {
	n, rest := l[0], l[1:]
	isHeld := func(g api.Grant) bool { return has(t, src, s, ctx, g) }
	switch n.Kind {
	case api.NodeThis:
		return slices.ContainsFunc(slices.Collect(src.Of(o, rel)), func(x api.Tuple) bool {
			isMeant := x.Subject == s || x.Subject.Id == "*" && s.Rel == "" && x.Subject.Type == s.Type
			return x.Cond == "" && (isMeant || x.Subject.Rel != "" && isHeld(api.Grant{Object: api.Object{Type: x.Subject.Type, Id: x.Subject.Id}, Rel: x.Subject.Rel}))
		}), rest
	case api.NodeSame:
		return isHeld(api.Grant{Object: o, Rel: n.Rel}), rest
	case api.NodeFrom:
		return slices.ContainsFunc(slices.Collect(src.Of(o, n.From)), func(x api.Tuple) bool {
			return x.Cond == "" && src.Model().Number(x.Subject.Type, n.Rel) >= 0 && isHeld(api.Grant{Object: api.Object{Type: x.Subject.Type, Id: x.Subject.Id}, Rel: n.Rel})
		}), rest
	}
	var kids []bool
	for range n.Kids {
		var kid bool
		kid, rest = letsBy(t, src, s, ctx, o, rel, rest)
		kids = append(kids, kid)
	}
	switch n.Kind {
	case api.NodeOr:
		return slices.Contains(kids, true), rest
	case api.NodeAnd:
		return !slices.Contains(kids, false), rest
	}
	return kids[0] && !kids[1], rest
}

// P17.5: an answer is what the rewrite says of the answers to what it is made of.
func TestAnswersAreMadeOfAnswers(t *testing.T) {
	yes, no := 0, 0
	for n := range int64(80) {
		c := &maker{Rand: seeded(1<<40 + n), nots: n%2 > 0}
		m := c.model()
		l := c.facts(m, 30)
		l = slices.DeleteFunc(l, func(x api.Tuple) bool { return x.Cond != "" })
		src := snapWith(t, m, l)
		all := subjects(m)
		for range 3 {
			s := all[c.Intn(len(all))]
			for _, g := range grantsOf(src) {
				v := has(t, src, s, nil, g)
				says, _ := letsBy(t, src, s, nil, g.Object, g.Rel, m.Rewrite(m.Number(g.Object.Type, g.Rel)))
				isOwn := s == api.Subject{Type: g.Object.Type, Id: g.Object.Id, Rel: g.Rel}
				if v != (says || isOwn) {
					t.Fatalf("%s\n%s: %v, but its rewrite says %v", told(src, query(src, g, s, nil)), grantText(g), v, says)
				}
				if v {
					yes++
				} else {
					no++
				}
			}
		}
	}
	if yes < 300 || no < 300 {
		t.Error(yes, no)
	}
}

// P17.5: where a model takes nothing away, no further tuple makes anything less true.
func TestMoreTuples(t *testing.T) {
	kept, gained := 0, 0
	for n := range int64(60) {
		c := &maker{Rand: seeded(1<<45 + n)}
		m := c.model()
		more := c.facts(m, 40)
		ctx := c.args(true)
		all := subjects(m)
		src, wider := snapWith(t, m, slices.Clone(more[:len(more)/2])), snapWith(t, m, more)
		for range 6 {
			s := all[c.Intn(len(all))]
			for _, g := range grantsOf(wider) {
				was, is := has(t, src, s, ctx, g), has(t, wider, s, ctx, g)
				if was && !is {
					t.Fatalf("%s\n%s has %s no more", told(wider, query(wider, g, s, ctx)), subjectText(s), grantText(g))
				}
				if was {
					kept++
				} else if is {
					gained++
				}
			}
		}
	}
	if kept < 500 || gained < 200 {
		t.Error(kept, gained)
	}
}

// P17.5: ones of a type that no tuple names have the same, in as many steps.
func TestWhoIsNotNamed(t *testing.T) {
	yes := 0
	for n := range int64(80) {
		c := &maker{Rand: seeded(1<<50 + n), nots: true}
		m := c.model()
		src := snapWith(t, m, c.facts(m, 40))
		ctx := c.args(true)
		for _, typ := range m.Schema().Types {
			for _, g := range grantsOf(src) {
				one := has(t, src, api.Subject{Type: typ.Name, Id: "nobody"}, ctx, g)
				for _, id := range []string{"zoe", "-", "n.o/b"} {
					if other := has(t, src, api.Subject{Type: typ.Name, Id: id}, ctx, g); other != one {
						t.Fatalf("%s: %v, %v", grantText(g), one, other)
					}
				}
				if one {
					yes++
				}
			}
		}
	}
	if yes < 200 {
		t.Error(yes)
	}
}

// P17.5: other ids for the same things change no answer.
func TestOtherIds(t *testing.T) {
	other := map[string]string{"1": "zz", "2": "3", "3": "a", "4": "1", "*": "*"}
	yes := 0
	for n := range int64(60) {
		c := &maker{Rand: seeded(1<<55 + n), nots: n%3 > 0}
		m := c.model()
		l := c.facts(m, 40)
		src := snapWith(t, m, l)
		for i := range l {
			l[i].Object.Id, l[i].Subject.Id = other[l[i].Object.Id], other[l[i].Subject.Id]
		}
		renamed, ctx, all := snapWith(t, m, l), c.args(true), subjects(m)
		for range 6 {
			s := all[c.Intn(len(all))]
			as := s
			as.Id = other[s.Id]
			for _, g := range grantsOf(src) {
				if g.Object.Id == "nobody-names-it" {
					continue
				}
				to := g
				to.Object.Id = other[g.Object.Id]
				one, two := has(t, src, s, ctx, g), has(t, renamed, as, ctx, to)
				if one != two {
					t.Fatalf("%s\n%s: %v, but %s: %v", told(src, query(src, g, s, ctx)), grantText(g), one, grantText(to), two)
				}
				if one {
					yes++
				}
			}
		}
	}
	if yes < 500 {
		t.Error(yes)
	}
}
