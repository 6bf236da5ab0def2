package tuples_test

import (
	"math/rand"
	"slices"
	"testing"

	"latchkey/api"
	"latchkey/schema"
	"latchkey/tuples"
)

// maker makes schemas and tuples; of each field of a tuple one out of slips is any text.
type maker struct {
	*rand.Rand
	slips int
	s     api.Schema
	pool  []api.Value
}

func makerOf(seed int64, slips int) *maker {
	return &maker{Rand: seeded(seed), slips: slips, pool: valuePool()}
}

func (c *maker) any(l ...string) string { return l[c.Intn(len(l))] }

func (c *maker) anyType() string { return c.any("a", "b", "c", "d") }

func (c *maker) anyRel() string { return c.any("p", "q", "r", "a") }

// anyCond is empty as often as not.
func (c *maker) anyCond() string { return c.any("", "", "", "k", "l", "a") }

// schema has some types with relations, some of which allow nothing, and three conditions with unlike parameters.
func (c *maker) schema() api.Schema {
	c.s = api.Schema{Conds: []api.Cond{{Name: "k"}, {Name: "l"}, {Name: "a"}}}
	for i, params := range [][]api.Param{nil, {{Name: "m", Kind: 1 + c.Intn(5)}}, {{Name: "o", Kind: 1 + c.Intn(5)}, {Name: "n", Kind: 1 + c.Intn(5)}, {Name: "m", Kind: 1 + c.Intn(5)}}} {
		c.s.Conds[i].Params, c.s.Conds[i].Expr = params, []api.Part{{Kind: api.PartValue, Value: boolean(true)}}
	}
	for _, name := range c.Perm(4)[:1+c.Intn(4)] {
		typ := api.Type{Name: []string{"a", "b", "c", "d"}[name]}
		for _, rel := range c.Perm(4)[:c.Intn(5)] {
			typ.Relations = append(typ.Relations, api.Relation{Name: []string{"p", "q", "r", "a"}[rel]})
		}
		c.s.Types = append(c.s.Types, typ)
	}
	for i, typ := range c.s.Types {
		for k := range typ.Relations {
			c.s.Types[i].Relations[k].Rewrite = c.rewrite(typ)
		}
	}
	return c.s
}

func (c *maker) rewrite(typ api.Type) []api.Node {
	same := api.Node{Kind: api.NodeSame, Rel: typ.Relations[c.Intn(len(typ.Relations))].Name}
	if c.Intn(6) == 0 {
		return []api.Node{same}
	}
	this := api.Node{Kind: api.NodeThis}
	for range 1 + c.Intn(6) {
		if a := c.allow(); !slices.Contains(this.Allow, a) {
			this.Allow = append(this.Allow, a)
		}
	}
	if c.Intn(3) == 0 {
		return []api.Node{{Kind: api.NodeOr, Kids: 2}, same, this}
	}
	return []api.Node{this}
}

func (c *maker) allow() api.Allow {
	typ := c.s.Types[c.Intn(len(c.s.Types))]
	a := api.Allow{Type: typ.Name, Cond: c.anyCond()}
	switch {
	case len(typ.Relations) > 0 && c.Intn(2) == 0:
		a.Rel = typ.Relations[c.Intn(len(typ.Relations))].Name
	case c.Intn(3) == 0:
		a.All = true
	}
	return a
}

// tuple is one that fits more often than not, but for its slips.
func (c *maker) tuple() api.Tuple {
	x := ofFields([]string{c.anyType(), c.any("1", "2"), c.anyRel(), c.anyType(), c.any("1", "2", "*"), c.any("", c.anyRel()), c.anyCond()})
	var places []api.Place
	for _, typ := range c.s.Types {
		for _, r := range typ.Relations {
			places = append(places, api.Place{Type: typ.Name, Rel: r.Name})
		}
	}
	if len(places) > 0 {
		p := places[c.Intn(len(places))]
		x.Object.Type, x.Rel = p.Type, p.Rel
		typ, _ := typeOf(c.s, p.Type)
		rel, _ := relationOf(typ, p.Rel)
		if l := allowsOf(rel); len(l) > 0 {
			x.Subject, x.Cond = c.subject(l[c.Intn(len(l))])
		}
	}
	if x.Cond != "" {
		x.Args = c.args(x.Cond)
	}
	return c.slipped(x)
}

func (c *maker) subject(a api.Allow) (api.Subject, string) {
	s := api.Subject{Type: a.Type, Id: c.any("1", "2", "x/y"), Rel: a.Rel}
	if a.All {
		s.Id = "*"
	}
	return s, a.Cond
}

func (c *maker) args(cond string) []api.Arg {
	var l []api.Arg
	for _, x := range c.s.Conds {
		for _, p := range x.Params {
			if x.Name == cond && c.Intn(2) == 0 {
				l = append(l, arg(p.Name, c.value(p.Kind)))
			}
		}
	}
	slices.SortFunc(l, func(a, b api.Arg) int { return slices.Compare([]byte(a.Name), []byte(b.Name)) })
	return l
}

// value is of a kind, or of any.
func (c *maker) value(kind int) api.Value {
	for {
		if v := c.pool[c.Intn(len(c.pool))]; v.Kind == kind || kind == 0 {
			return v
		}
	}
}

func (c *maker) slip() bool { return c.slips > 0 && c.Intn(c.slips) == 0 }

func (c *maker) slipped(x api.Tuple) api.Tuple {
	l := fields(x)
	for i := range l {
		if c.slip() {
			l[i] = c.any(c.anyType(), c.anyRel(), c.anyCond(), c.any(fieldPool()...))
		}
	}
	args := slices.Clone(x.Args)
	for c.slip() {
		args = append(args, arg(c.any("m", "n", "o", "p", "z", c.any(fieldPool()...)), c.value(0)))
	}
	for i := range args {
		if c.slip() {
			args[i].Value = c.value(0)
		}
		if c.slip() {
			args[i].Value.Int++
		}
	}
	return under(ofFields(l), args...)
}

// P10.1: Check against the words, over many schemas and tuples; each answer comes up often.
func TestCheckAgainstTheWords(t *testing.T) {
	met := map[api.Errno]int{}
	for n := range int64(1500) {
		c := makerOf(n, []int{0, 8, 20, 60}[n%4])
		s := c.schema()
		m, fault := schema.Of(s)
		if fault.Err != api.OK {
			t.Fatalf("%+v: %+v", s, fault)
		}
		for range 100 {
			x := c.tuple()
			want := fitOf(s, x)
			met[want]++
			wantFit(t, m, x, want)
			if want == api.OK && !mayBe(x) {
				t.Errorf("%s fits, but may not be", show(x))
			}
		}
	}
	for _, e := range []api.Errno{api.OK, api.ErrType, api.ErrId, api.ErrRelation, api.ErrSubject, api.ErrAllowed, api.ErrArgs, api.ErrParam, api.ErrKind} {
		if met[e] < 200 {
			t.Errorf("%d came up %d times", e, met[e])
		}
	}
}

// P10.2 to P10.7: texts, bytes, orders, filters of many tuples, right and wrong.
func TestTuplesAgainstTheWords(t *testing.T) {
	met := map[bool]int{}
	for n := range int64(1500) {
		c := makerOf(n, []int{0, 8, 20, 60}[n%4])
		c.schema()
		var ahead api.Tuple
		for range 30 {
			x := c.tuple()
			met[mayBe(x)]++
			wantAsTheWordsSay(t, x)
			wantBesideAsTheWordsSay(t, x, ahead)
			l := fields(ahead)
			for i := range l {
				l[i] = c.any("", "", l[i], fields(x)[i])
			}
			if f := filterOf(l); tuples.Lets(f, x) != letsOf(f, x) {
				t.Errorf("Lets(%+v, %s) = %v", f, show(x), !letsOf(f, x))
			}
			ahead = x
		}
	}
	if met[true] < 1000 || met[false] < 1000 {
		t.Error(met)
	}
}

func wantAsTheWordsSay(t *testing.T, x api.Tuple) {
	t.Helper()
	readAsTheWordsSay(t, textOf(x))
	decodedAsTheWordsSay(t, bytesOf(x))
	if !mayBe(x) {
		wantNoText(t, x)
		wantNoBytes(t, x)
		return
	}
	wantText(t, x, textOf(x))
	wantBytes(t, x, bytesOf(x))
}

func wantBesideAsTheWordsSay(t *testing.T, x, y api.Tuple) {
	t.Helper()
	if got := tuples.Compare(x, y); got != orderOf(x, y) {
		t.Errorf("Compare(%s, %s) = %d", show(x), show(y), got)
	}
	if got := tuples.Backward(x, y); got != backwardOf(x, y) {
		t.Errorf("Backward(%s, %s) = %d", show(x), show(y), got)
	}
	if got := tuples.Same(x, y); mayBe(x) && mayBe(y) && got != (textOf(x) == textOf(y)) {
		t.Errorf("Same(%s, %s) = %v", show(x), show(y), got)
	}
}

// P10.4, P10.5: texts and bytes put together of pieces of others, at random.
func TestPiecesAtRandom(t *testing.T) {
	c := makerOf(1, 0)
	for range 60000 {
		var s string
		var b []byte
		for range 1 + c.Intn(3) {
			w := c.any(written()...)
			row := bytesOf(fact(w))
			from, to := c.Intn(len(w)+1), c.Intn(len(w)+1)
			s += w[min(from, to):max(from, to)]
			from, to = c.Intn(len(row)+1), c.Intn(len(row)+1)
			b = append(b, row[min(from, to):max(from, to)]...)
		}
		readAsTheWordsSay(t, s)
		decodedAsTheWordsSay(t, b)
	}
}
