package check

import (
	"slices"

	"latchkey/api"
)

// question is one that is being answered. It goes from its goal to what that leans on, and back from each fact that is held to those that lean on it. What waits lies in lists, not in calls within calls: a way may be as long as there are tuples, and longer.
type question struct {
	*Asker
	budget int
	steps  int
	isOut  bool // of its budget; then nothing more is done
	facts  map[api.Grant]*fact
	strata []stratum
	low    int    // no fact of a stratum below waits
	leans  []lean // of the fact that is being looked at
}

// fact is one that was asked for. Behind that it was answered, it is of no more use.
type fact struct {
	grant api.Grant
	rule  *rule
	asked uint64 // the leaves of its rewrite that have been gone through
	met   uint64 // those that let the subject in
	waits bool
	back  []lean // the leaves, of whatever facts, that lean on it
}

// lean is that a leaf of a fact lets the subject in, if another fact is held.
type lean struct {
	fact *fact
	leaf *node
	on   api.Grant
}

// stratum are the open facts of a stratum, and those of them that wait to be looked at, the next one last.
type stratum struct {
	open    []*fact
	waiting []*fact
}

func (a *Asker) question(budget int) *question {
	return &question{Asker: a, budget: budget, facts: map[api.Grant]*fact{}}
}

func (q *question) answer(goal api.Grant) (api.Verdict, api.Errno) {
	q.step()
	if q.known[goal] == unasked {
		q.begin(goal)
	}
	for q.known[goal] == open && !q.isOut {
		q.goOn()
	}
	q.forget()
	if q.isOut {
		return api.Verdict{Steps: q.budget, Err: api.ErrBudget}, api.ErrBudget
	}
	return api.Verdict{Held: q.known[goal] == held, Steps: q.steps}, api.OK
}

// step makes a step, if the budget has one left, and says whether it did.
func (q *question) step() bool {
	if q.steps == q.budget {
		q.isOut = true
		return false
	}
	q.steps++
	return true
}

// begin asks for the goal. All that it leans on is of its own stratum or lower.
func (q *question) begin(goal api.Grant) {
	top := q.rule(placeOf(goal)).stratum
	q.strata = make([]stratum, top+1)
	q.low = top
	q.wait(q.ask(goal))
}

// goOn looks at a fact of the lowest stratum in which one waits, or settles one in which none does.
func (q *question) goOn() {
	s := &q.strata[q.low]
	last := len(s.waiting) - 1
	if last < 0 {
		q.settle(s)
		return
	}
	f := s.waiting[last]
	s.waiting = s.waiting[:last]
	f.waits = false
	q.look(f)
}

// settle goes one stratum up. As nothing waits here, nor below, what is open here is held by nothing that ends.
func (q *question) settle(s *stratum) {
	for _, f := range s.open {
		if q.known[f.grant] == open {
			q.known[f.grant] = missing
		}
	}
	s.open = nil
	q.low++
}

// look asks a fact's rewrite. (It may have been answered since it began to wait.)
func (q *question) look(f *fact) {
	if q.known[f.grant] != open {
		return
	}
	q.leans = q.leans[:0]
	switch q.lets(f, f.rule.top) {
	case held:
		q.hold(f)
	case missing:
		q.known[f.grant] = missing
	default:
		q.leanOn(f)
	}
}

// hold takes in that a fact is held, and meets the leaves that lean on it.
func (q *question) hold(f *fact) {
	q.known[f.grant] = held
	for _, l := range f.back {
		if !q.step() {
			return
		}
		if l.fact.met&l.leaf.bit == 0 {
			l.fact.met |= l.leaf.bit
			q.wait(l.fact)
		}
	}
}

// leanOn asks for what the leaves of a fact were found to lean on, so that what comes first is looked at first. What is taken away must be settled before the fact can be looked at again.
func (q *question) leanOn(f *fact) {
	for _, l := range slices.Backward(q.leans) {
		if q.known[l.on] == unasked {
			q.wait(q.ask(l.on))
		}
		on := q.facts[l.on]
		on.back = append(on.back, l)
		if l.leaf.taken {
			q.wait(f)
		}
	}
}

// ask makes an open fact of one that nobody has asked for.
func (q *question) ask(g api.Grant) *fact {
	f := &fact{grant: g, rule: q.rule(placeOf(g))}
	q.known[g] = open
	q.facts[g] = f
	s := &q.strata[f.rule.stratum]
	s.open = append(s.open, f)
	return f
}

func (q *question) wait(f *fact) {
	if !f.waits {
		f.waits = true
		s := &q.strata[f.rule.stratum]
		s.waiting = append(s.waiting, f)
		q.low = min(q.low, f.rule.stratum)
	}
}

// forget leaves unasked what is open, and, where the budget wasn't enough, all that was asked: then it is as if nobody had called.
func (q *question) forget() {
	for g := range q.facts {
		if q.isOut || q.known[g] == open {
			delete(q.known, g)
		}
	}
}

func placeOf(g api.Grant) api.Place {
	return api.Place{Type: g.Object.Type, Rel: g.Rel}
}
