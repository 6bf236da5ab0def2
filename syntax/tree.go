package syntax

import (
	"slices"

	"latchkey/api"
)

// outline is how far a tree that is written as a list has come: of each node that isn't ended, the outermost first, how many kids it still lacks. (Each for itself: all of them added might be no int.)
type outline struct {
	lacks []int
	count int // how many nodes were added
}

// unbegun is a tree that lacks its root.
func unbegun() outline {
	return outline{lacks: []int{1}}
}

// fault says what is wrong with the place of the next node, or with its kind.
func (o *outline) fault(known bool) api.Errno {
	switch {
	case len(o.lacks) == 0 || !known:
		return api.ErrTree
	case len(o.lacks) > api.MaxDeep:
		return api.ErrLong
	}
	return api.OK
}

// add takes in the next node, which has that many kids.
func (o *outline) add(kids int) {
	o.count++
	o.lacks[len(o.lacks)-1]--
	o.lacks = append(o.lacks, kids)
	for len(o.lacks) > 0 && o.lacks[len(o.lacks)-1] == 0 {
		o.lacks = o.lacks[:len(o.lacks)-1]
	}
}

// end says what is wrong with a list behind which nothing comes.
func (o *outline) end() api.Errno {
	if len(o.lacks) > 0 {
		return api.ErrTree
	}
	return api.OK
}

// tree is a tree that is being read. Its nodes come behind their kids, and stand ahead of them.
type tree[T any] struct {
	nodes  []T
	starts []int // where those trees begin whose parent hasn't come
	most   int
}

// put lays a node ahead of the kids that came last. One node too many is kept, by which the tree is refused, and no further one: so neither room nor time goes to what nobody sees.
func (t *tree[T]) put(x T, kids int) {
	if len(t.nodes) > t.most {
		return
	}
	start := len(t.nodes)
	if kids > 0 {
		first := len(t.starts) - kids
		start = t.starts[first]
		t.starts = t.starts[:first]
	}
	t.nodes = slices.Insert(t.nodes, start, x)
	t.starts = append(t.starts, start)
}
