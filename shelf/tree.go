package shelf

import (
	"iter"
)

// How heavy a side of a tree may be, as a multiple of the other side, and how heavy the inner part of a side that is too heavy, as a multiple of its outer part, for one turn to do. With these two numbers, and few others, each turn brings the balance back.
const (
	mostSide  = 3
	mostInner = 2
)

// tree is a row of elements, told by their places alone; nil has none. A tree never changes: what is made of it has new nodes on the way to what is new and shares all others, so whoever has the old tree has a copy.
type tree[T any] struct {
	element     T
	left, right *tree[T]
	size        int
}

func (t *tree[T]) count() int {
	if t == nil {
		return 0
	}
	return t.size
}

// weight is never 0, so that sides that are empty can be held against others too.
func (t *tree[T]) weight() int {
	return t.count() + 1
}

// from tells the elements behind the first skip ones.
func (t *tree[T]) from(skip int) iter.Seq[T] {
	return func(yield func(T) bool) {
		t.show(skip, yield)
	}
}

// show tells the elements behind the first skip ones, all if skip is below 0, and says whether more are wanted.
func (t *tree[T]) show(skip int, yield func(T) bool) bool {
	if t == nil || skip >= t.size {
		return true
	}
	own := t.left.count()
	if skip < own && !t.left.show(skip, yield) {
		return false
	}
	if skip <= own && !yield(t.element) {
		return false
	}
	return t.right.show(skip-own-1, yield)
}

// insert makes a tree with x at the place i, from 0 to as many as there are.
func (t *tree[T]) insert(i int, x T) *tree[T] {
	if t == nil {
		return branch(nil, x, nil)
	}
	own := t.left.count()
	if i <= own {
		return balanced(t.left.insert(i, x), t.element, t.right)
	}
	return balanced(t.left, t.element, t.right.insert(i-own-1, x))
}

// replace makes a tree with x in the place of the element at i, which must be there.
func (t *tree[T]) replace(i int, x T) *tree[T] {
	own := t.left.count()
	switch {
	case i < own:
		return branch(t.left.replace(i, x), t.element, t.right)
	case i > own:
		return branch(t.left, t.element, t.right.replace(i-own-1, x))
	}
	return branch(t.left, x, t.right)
}

// remove makes a tree without the element at i, which must be there.
func (t *tree[T]) remove(i int) *tree[T] {
	own := t.left.count()
	switch {
	case i < own:
		return balanced(t.left.remove(i), t.element, t.right)
	case i > own:
		return balanced(t.left, t.element, t.right.remove(i-own-1))
	case t.left == nil:
		return t.right
	case t.right == nil:
		return t.left
	}
	return balanced(t.left, t.right.first(), t.right.remove(0))
}

// first answers the first element of a tree that has one.
func (t *tree[T]) first() T {
	for t.left != nil {
		t = t.left
	}
	return t.element
}

func branch[T any](left *tree[T], x T, right *tree[T]) *tree[T] {
	return &tree[T]{x, left, right, left.count() + right.count() + 1}
}

// balanced is a branch of two sides of which one may have become too heavy by one element.
func balanced[T any](left *tree[T], x T, right *tree[T]) *tree[T] {
	switch {
	case right.weight() > mostSide*left.weight():
		return turnedLeft(left, x, right)
	case left.weight() > mostSide*right.weight():
		return turnedRight(left, x, right)
	}
	return branch(left, x, right)
}

func turnedLeft[T any](left *tree[T], x T, right *tree[T]) *tree[T] {
	inner, outer := right.left, right.right
	if inner.weight() < mostInner*outer.weight() {
		return branch(branch(left, x, inner), right.element, outer)
	}
	return branch(branch(left, x, inner.left), inner.element, branch(inner.right, right.element, outer))
}

func turnedRight[T any](left *tree[T], x T, right *tree[T]) *tree[T] {
	outer, inner := left.left, left.right
	if inner.weight() < mostInner*outer.weight() {
		return branch(outer, left.element, branch(inner, x, right))
	}
	return branch(branch(outer, left.element, inner.left), inner.element, branch(inner.right, x, right))
}
