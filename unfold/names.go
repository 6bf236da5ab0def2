package unfold

import (
	"maps"
	"slices"

	"latchkey/api"
	"latchkey/ident"
)

// isTree says whether l is a tree of branches.
func isTree(l []api.Branch) bool {
	awaited := 1
	for _, b := range l {
		// No branch of a tree has more kids than the tree has branches; and so few are counted without going past the greatest int.
		if awaited == 0 || b.Kids > len(l) || !isBranch(b) {
			return false
		}
		awaited += b.Kids - 1
	}
	return awaited == 0
}

// isBranch says whether b, as far as it alone can tell, may stand in a tree of branches.
func isBranch(b api.Branch) bool {
	if b.Kind != api.NodeThis && len(b.Subjects) > 0 {
		return false
	}
	switch b.Kind {
	case api.NodeThis:
		return b.Kids == 0 && !b.Cut && mayBeNamed(b.Subjects)
	case api.NodeSame:
		return b.Kids == 1 && !b.Cut || b.Kids == 0 && b.Cut
	case api.NodeFrom:
		return b.Kids == 0 || b.Kids > 0 && !b.Cut
	case api.NodeOr, api.NodeAnd:
		return b.Kids >= 2 && !b.Cut
	case api.NodeNot:
		return b.Kids == 2 && !b.Cut
	}
	return false
}

// mayBeNamed says whether l are subjects that rise, each once.
func mayBeNamed(l []api.Subject) bool {
	for i, s := range l {
		if ident.Kind(s) == api.SubNone || i > 0 && ident.CompareSubjects(l[i-1], s) >= 0 {
			return false
		}
	}
	return true
}

// named answers whom a tree of branches names in which nothing is cut.
func named(l []api.Branch) []api.Subject {
	t := teller{branches: l}
	return slices.SortedFunc(maps.Keys(t.tell()), ident.CompareSubjects)
}

// teller tells whom trees name that stand one behind the other.
type teller struct {
	branches []api.Branch
	at       int
}

// names are subjects, each once.
type names map[api.Subject]int

func (t *teller) tell() names {
	b := t.branches[t.at]
	t.at++
	switch b.Kind {
	case api.NodeThis:
		return namesOf(b.Subjects)
	case api.NodeAnd:
		return t.tellAll(b.Kids)
	case api.NodeNot:
		first := t.tell()
		return without(first, t.tell())
	}
	return t.tellSome(b.Kids)
}

func (t *teller) tellAll(kids int) names {
	all := t.tell()
	for range kids - 1 {
		all = both(all, t.tell())
	}
	return all
}

func (t *teller) tellSome(kids int) names {
	some := names{}
	for range kids {
		some = either(some, t.tell())
	}
	return some
}

func namesOf(l []api.Subject) names {
	all := names{}
	for _, s := range l {
		all[s] = 1
	}
	return all
}

// either, as both and without, writes over what it is handed.
func either(a, b names) names {
	// Else the same many could be gone through for each few that are put to them.
	if len(a) < len(b) {
		a, b = b, a
	}
	maps.Copy(a, b)
	return a
}

func both(a, b names) names {
	maps.DeleteFunc(a, func(s api.Subject, _ int) bool { return b[s] == 0 })
	return a
}

func without(a, b names) names {
	for s := range b {
		delete(a, s)
	}
	return a
}
