package routes

import (
	"latchkey/api"
	"latchkey/schema"
)

// steps has for each place those to which one step leads. Where EdgeDirects come from stands among them as a place whose Rel is empty.
type steps map[api.Place][]api.Place

// onward are the steps along the edges of m.
func onward(m *schema.Model) steps {
	s := steps{}
	for _, e := range edges(m) {
		s[e.From] = append(s[e.From], e.To)
	}
	return s
}

// backward are the steps against them.
func backward(m *schema.Model) steps {
	s := steps{}
	for _, e := range edges(m) {
		s[e.To] = append(s[e.To], e.From)
	}
	return s
}

// reach are all places to which any number of steps leads from p, p too.
func (s steps) reach(p api.Place) map[api.Place]struct{} {
	reached := map[api.Place]struct{}{p: {}}
	for waiting := []api.Place{p}; len(waiting) > 0; {
		last := len(waiting) - 1
		at := waiting[last]
		waiting = waiting[:last]
		for _, next := range s[at] {
			if _, isKnown := reached[next]; !isKnown {
				reached[next] = struct{}{}
				waiting = append(waiting, next)
			}
		}
	}
	return reached
}
