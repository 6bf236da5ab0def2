package schema_test

import (
	"slices"
	"testing"

	"latchkey/api"
	"latchkey/schema"
	"latchkey/syntax"
)

// some are random schemas of all kinds; visit is told each one and its model, or nil.
func some(t *testing.T, seed int64, count int, visit func(c *maker, s api.Schema, m *schema.Model)) {
	t.Helper()
	models := 0
	for i := range count {
		c := makerOf(seed + int64(i))
		s := c.schema()
		m, _ := schema.Of(s)
		if m != nil {
			models++
		}
		visit(c, s, m)
	}
	if models < count/4 {
		t.Errorf("%d of %d were taken", models, count)
	}
}

// P9.6: strata along the arcs, and what asks for each that is above 0.
func TestStrataFollow(t *testing.T) {
	above := 0
	some(t, 1<<20, 3000, func(_ *maker, s api.Schema, m *schema.Model) {
		if m == nil {
			return
		}
		for _, a := range m.Arcs() {
			if m.Stratum(a.To) > m.Stratum(a.From) || a.Neg && m.Stratum(a.To) == m.Stratum(a.From) {
				t.Errorf("%s: %v leads from %d to %d", show(s), a, m.Stratum(a.From), m.Stratum(a.To))
			}
		}
		for n := range m.Places() {
			if m.Stratum(n) > 0 {
				above++
				if !hasReason(m, n) {
					t.Errorf("%s: nothing asks for %d to be on %d", show(s), n, m.Stratum(n))
				}
			}
		}
	})
	if above < 1000 {
		t.Error(above)
	}
}

// hasReason says whether a place leads, within its stratum, to one from which a Neg arc leads to the one below.
func hasReason(m *schema.Model, n int) bool {
	reached := []int{n}
	for i := 0; i < len(reached); i++ {
		for _, a := range m.Arcs() {
			if a.From != reached[i] {
				continue
			}
			if a.Neg && m.Stratum(a.To) == m.Stratum(n)-1 {
				return true
			}
			if !a.Neg && m.Stratum(a.To) == m.Stratum(n) && !slices.Contains(reached, a.To) {
				reached = append(reached, a.To)
			}
		}
	}
	return false
}

// shuffled has the same types, relations and conditions in another order.
func shuffled(c *maker, s api.Schema) api.Schema {
	o := api.Schema{Types: slices.Clone(s.Types), Conds: slices.Clone(s.Conds)}
	c.Shuffle(len(o.Types), func(i, j int) { o.Types[i], o.Types[j] = o.Types[j], o.Types[i] })
	c.Shuffle(len(o.Conds), func(i, j int) { o.Conds[i], o.Conds[j] = o.Conds[j], o.Conds[i] })
	for i := range o.Types {
		l := slices.Clone(o.Types[i].Relations)
		c.Shuffle(len(l), func(i, j int) { l[i], l[j] = l[j], l[i] })
		o.Types[i].Relations = l
	}
	return o
}

// link is an arc by its places' names.
type link struct {
	from, to api.Place
	neg      bool
}

// links are the arcs of a model, whatever the numbers.
func links(m *schema.Model) map[link]int {
	l := map[link]int{}
	places := m.Places()
	for _, a := range m.Arcs() {
		l[link{places[a.From], places[a.To], a.Neg}]++
	}
	return l
}

// P9.6: in another order the same schemas are taken, and the places stand on the same strata.
func TestOtherOrders(t *testing.T) {
	some(t, 1<<30, 3000, func(c *maker, s api.Schema, m *schema.Model) {
		o := shuffled(c, s)
		n, f := schema.Of(o)
		if (m == nil) != (n == nil) || (n == nil) != (f.Err != api.OK) {
			t.Errorf("%s is taken: %v; in another order %s: %+v", show(s), m != nil, show(o), f)
			return
		}
		if m == nil {
			return
		}
		for i, p := range m.Places() {
			if got := n.Stratum(n.Number(p.Type, p.Rel)); got != m.Stratum(i) {
				t.Errorf("%s: %v is on %d; in another order on %d", show(s), p, m.Stratum(i), got)
			}
		}
		one, two := links(m), links(n)
		for x := range one {
			if one[x] != 1 || two[x] != 1 || len(one) != len(two) {
				t.Errorf("%s: arcs %v; in another order %v", show(s), m.Arcs(), n.Arcs())
			}
		}
		if m.Size() != n.Size() || len(m.Places()) != len(n.Places()) {
			t.Errorf("%s: size %d, in another order %d", show(s), m.Size(), n.Size())
		}
	})
}

// P9.6: the schema that is read of its own text has the same places, arcs and strata.
func TestReadOfItsOwnText(t *testing.T) {
	some(t, 1<<40, 2000, func(_ *maker, s api.Schema, m *schema.Model) {
		text, e := syntax.Print(s)
		if e != api.OK {
			t.Fatal(e)
		}
		if m == nil {
			_, want := schema.Of(s)
			wantFault(t, read(t, text), want)
			return
		}
		if text2, _ := syntax.Print(m.Schema()); text2 != text {
			t.Errorf("%s: Schema() is %s", text, text2)
		}
		n := model(t, text)
		if !slices.Equal(m.Places(), n.Places()) || !slices.Equal(m.Arcs(), n.Arcs()) || !slices.Equal(levels(m), levels(n)) || m.Size() != n.Size() {
			t.Errorf("%s: %v %v %v; read: %v %v %v", text, m.Places(), m.Arcs(), levels(m), n.Places(), n.Arcs(), levels(n))
		}
		// A model's own schema makes the same model.
		k := taken(t, m.Schema())
		if !slices.Equal(m.Arcs(), k.Arcs()) || !slices.Equal(levels(m), levels(k)) {
			t.Errorf("%s: the model of its Schema() differs", text)
		}
	})
}
