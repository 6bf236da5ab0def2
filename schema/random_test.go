package schema_test

import (
	"math/rand"
	"slices"
	"testing"

	"latchkey/api"
	"latchkey/schema"
	"latchkey/syntax"
)

// maker makes schemas; one name out of slips is any, one out of nots units has something taken away. In a layered one a rewrite speaks of its own place and those ahead alone, and takes away what stands ahead, so that there are no bad rings.
type maker struct {
	*rand.Rand
	slips   int
	nots    int
	layered bool
	s       api.Schema
	typ     int // of the rewrite that is made
	rel     int
}

// makerOf makes the kind of schemas that a number says.
func makerOf(n int64) *maker {
	return &maker{Rand: seeded(n), slips: []int{0, 12, 40, 100}[n%4], nots: []int{2, 8, 30}[n/4%3], layered: n/12%2 == 0}
}

func (c *maker) slip() bool { return c.slips > 0 && c.Intn(c.slips) == 0 }

func (c *maker) any(l ...string) string { return l[c.Intn(len(l))] }

func (c *maker) anyType() string { return c.any("a", "b", "c", "d", "p") }

func (c *maker) anyRel() string { return c.any("p", "q", "r", "s", "u", "v", "a") }

func (c *maker) anyCond() string { return c.any("k", "l", "a", "p") }

// count is how many there shall be; of a layered one, which needs room, not few.
func (c *maker) count(n int) int {
	if c.layered {
		return n/2 + c.Intn(2*n)
	}
	return c.Intn(n)
}

// schema lays out types, relations and conditions with their names first, so that rewrites can speak of them.
func (c *maker) schema() api.Schema {
	c.s = api.Schema{}
	for range c.count(5) {
		if name := c.anyType(); c.slip() || !isType(c.s, name) {
			c.s.Types = append(c.s.Types, api.Type{Name: name, Relations: c.relations()})
		}
	}
	for range c.Intn(3) {
		if name := c.anyCond(); c.slip() || !isCond(c.s, name) {
			c.s.Conds = append(c.s.Conds, c.cond(name))
		}
	}
	ways := map[*api.Relation]int{}
	for i := range c.s.Types {
		for k := range c.s.Types[i].Relations {
			if r := &c.s.Types[i].Relations[k]; c.Intn(3) == 0 {
				r.Rewrite = []api.Node{{Kind: api.NodeThis, Allow: c.allows(true)}}
				ways[r] = 1
			}
		}
	}
	for i, t := range c.s.Types {
		for k := range t.Relations {
			if r := &c.s.Types[i].Relations[k]; ways[r] == 0 {
				c.typ, c.rel = i, k
				r.Rewrite = c.rewrite(t, 3, c.Intn(3) > 0, false)
			}
		}
	}
	return c.s
}

func (c *maker) relations() []api.Relation {
	var l []api.Relation
	for range c.count(6) {
		name := c.anyRel()
		if c.slip() || !slices.ContainsFunc(l, func(r api.Relation) bool { return r.Name == name }) {
			l = append(l, api.Relation{Name: name})
		}
	}
	return l
}

func (c *maker) cond(name string) api.Cond {
	x := api.Cond{Name: name, Params: []api.Param{{Name: "n", Kind: api.ValBool}}, Expr: []api.Part{{Kind: api.PartParam, Name: "n"}}}
	if c.slip() {
		x.Expr[0].Name = "m"
	}
	if c.slip() {
		x.Params[0].Kind = api.ValInt
	}
	return x
}

// allows are of ones alone, if so.
func (c *maker) allows(ones bool) []api.Allow {
	var l []api.Allow
	for range 1 + c.Intn(4) {
		if a := c.allow(ones && !c.slip()); c.slip() || !slices.Contains(l, a) {
			l = append(l, a)
		}
	}
	return l
}

func (c *maker) allow(one bool) api.Allow {
	i := c.Intn(len(c.s.Types))
	t := c.s.Types[i]
	a := api.Allow{Type: t.Name}
	switch {
	case !one && len(t.Relations) > 0 && c.Intn(2) == 0 && c.isAhead(i):
		a.Rel = t.Relations[c.Intn(len(t.Relations))].Name
	case !one && c.Intn(2) == 0:
		a.All = true
	}
	if len(c.s.Conds) > 0 && c.Intn(3) == 0 {
		a.Cond = c.s.Conds[c.Intn(len(c.s.Conds))].Name
	}
	if c.slip() {
		a.Type = c.anyType()
	}
	if c.slip() && !a.All {
		a.Rel = c.anyRel()
	}
	if c.slip() {
		a.Cond = c.anyCond()
	}
	return a
}

// isAhead says whether a rewrite may speak of the relations of the type with that number.
func (c *maker) isAhead(typ int) bool { return !c.layered || typ < c.typ }

// rewrite is one no deeper than that; with a NodeThis at its first leaf, if so; taken away, if so.
func (c *maker) rewrite(t api.Type, deep int, this, away bool) []api.Node {
	if deep == 0 || c.Intn(3) == 0 {
		return []api.Node{c.leaf(t, this, away)}
	}
	n := api.Node{Kind: api.NodeOr + c.Intn(2), Kids: 2 + c.Intn(2)}
	if c.Intn(c.nots) == 0 && (!c.layered || c.rel > 0) {
		n = api.Node{Kind: api.NodeNot, Kids: 2}
	}
	l := []api.Node{n}
	for kid := range n.Kids {
		l = append(l, c.rewrite(t, deep-1, this && kid == 0, away || n.Kind == api.NodeNot && kid == 1)...)
	}
	return l
}

func (c *maker) leaf(t api.Type, this, away bool) api.Node {
	count := len(t.Relations)
	if c.layered && away {
		count = c.rel
	} else if c.layered {
		count = c.rel + 1
	}
	rel := t.Relations[c.Intn(count)]
	switch {
	case this || c.slip():
		return api.Node{Kind: api.NodeThis, Allow: c.allows(false)}
	case c.slip():
		return api.Node{Kind: api.NodeSame, Rel: c.anyRel()}
	case c.slip():
		return api.Node{Kind: api.NodeFrom, Rel: c.anyRel(), From: c.any(rel.Name, c.anyRel())}
	case isWay(rel.Rewrite):
		a := rel.Rewrite[0].Allow[0].Type
		for i, u := range c.s.Types {
			if u.Name == a && len(u.Relations) > 0 && c.isAhead(i) {
				return api.Node{Kind: api.NodeFrom, Rel: u.Relations[c.Intn(len(u.Relations))].Name, From: rel.Name}
			}
		}
	}
	return api.Node{Kind: api.NodeSame, Rel: rel.Name}
}

// P9.1 to P9.4: schemas of all kinds, right and wrong, held against the chapter's words.
func TestAgainstTheWords(t *testing.T) {
	met := map[api.Errno]int{}
	for i := range 12000 {
		s := makerOf(int64(i)).schema()
		want := faultOf(s)
		met[want.Err]++
		wantFault(t, s, want)
		if want.Err == api.OK {
			wantModel(t, s)
		}
	}
	for _, e := range []api.Errno{api.OK, api.ErrTwice, api.ErrType, api.ErrRelation, api.ErrCond, api.ErrArrow, api.ErrStrata, api.ErrKind, api.ErrParam} {
		if met[e] < 50 {
			t.Errorf("the error %d was met %d times of %v", e, met[e], met)
		}
	}
}

// wantModel asks all that a model of s can be asked.
func wantModel(t *testing.T, s api.Schema) {
	t.Helper()
	m := taken(t, s)
	all := spots(s)
	size := 0
	var places []api.Place
	for n, x := range all {
		size += len(x.l)
		places = append(places, x.place)
		if got := m.Number(x.place.Type, x.place.Rel); got != n {
			t.Errorf("%s: Number of %v: %d, not %d", show(s), x.place, got, n)
		}
		if got := m.Rewrite(n); !sameRewrite(got, x.l) {
			t.Errorf("%s: Rewrite(%d): %v", show(s), n, got)
		}
		if got := m.Allows(n); !slices.Equal(got, allowsOf(x.l)) {
			t.Errorf("%s: Allows(%d): %v", show(s), n, got)
		}
	}
	if got := m.Places(); !slices.Equal(got, places) {
		t.Errorf("%s: places %v", show(s), got)
	}
	if got := m.Size(); got != size {
		t.Errorf("%s: size %d, not %d", show(s), got, size)
	}
	if got := m.Schema(); !syntax.Same(got, s) {
		t.Errorf("%s: Schema() %s", show(s), show(got))
	}
	wantArcs(t, m, arcsOf(s))
	wantLevels(t, m, levelsOf(len(all), arcsOf(s)))
	wantNames(t, m, s)
}

// wantNames asks for each name that the makers know, a place's or a condition's or not.
func wantNames(t *testing.T, m *schema.Model, s api.Schema) {
	t.Helper()
	texts := []string{"", "a", "b", "c", "d", "p", "q", "r", "s", "u", "v", "k", "l"}
	for _, x := range texts {
		for _, y := range texts {
			if got := m.Number(x, y); !isPlace(s, x, y) && got != -1 {
				t.Errorf("%s: Number(%q, %q) = %d", show(s), x, y, got)
			}
		}
		c, ok := m.Cond(x)
		if ok != isCond(s, x) || ok && !sameCond(c, s.Conds[slices.IndexFunc(s.Conds, func(c api.Cond) bool { return c.Name == x })]) || !ok && !sameCond(c, api.Cond{}) {
			t.Errorf("%s: Cond(%q): %v, %v", show(s), x, c, ok)
		}
	}
}
