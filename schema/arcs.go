package schema

import (
	"cmp"
	"slices"

	"latchkey/api"
	"latchkey/strata"
)

// takeRewrites counts the nodes and gathers the arcs of all rewrites, or tells the first node that is refused.
func (m *Model) takeRewrites() api.Fault {
	by := looksByKind()
	gather := func(a api.Arc) { m.arcs = append(m.arcs, a) }
	for n, s := range m.seats {
		w := m.walkOf(n, by)
		if e := w.next(gather); e != api.OK {
			return api.Fault{Err: e, What: s.typ, Part: s.rel, Node: w.at}
		}
		m.size += len(w.nodes)
	}
	slices.SortFunc(m.arcs, compareArcs)
	m.arcs = slices.Compact(m.arcs)
	return api.Fault{}
}

func compareArcs(a, b api.Arc) int {
	return cmp.Or(cmp.Compare(a.From, b.From), cmp.Compare(a.To, b.To), cmp.Compare(negRank(a), negRank(b)))
}

func negRank(a api.Arc) int {
	if a.Neg {
		return 1
	}
	return 0
}

// takeStrata settles the strata, or tells the first place that is in a bad ring. Syntax lets no schema through that has too many places or arcs for strata.
func (m *Model) takeStrata() api.Fault {
	levels, e := strata.Strata(len(m.seats), m.arcs)
	if e != api.OK {
		s := m.seats[m.firstBad()]
		return api.Fault{Err: e, What: s.typ, Part: s.rel, Node: none}
	}
	m.levels = levels
	return api.Fault{}
}

// firstBad is the first place of a part within which a Neg arc leads. (strata.Ring tells the part that has the least number, which needn't be that of the first place.)
func (m *Model) firstBad() int {
	parts, _ := strata.Parts(len(m.seats), m.arcs)
	bad := make([]bool, len(parts))
	for _, a := range m.arcs {
		if p := parts[a.From]; a.Neg && p == parts[a.To] {
			bad[p] = true
		}
	}
	return slices.IndexFunc(parts, func(p int) bool { return bad[p] })
}
