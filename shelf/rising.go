package shelf

import (
	"iter"
)

// Join tells each element that one of the sequences has, rising; of like ones that of the first sequence that has one.
func Join[T any](compare func(a, b T) int, l ...iter.Seq[T]) iter.Seq[T] {
	if compare == nil {
		return nothing[T]
	}
	return joined(compare, l)
}

// joined joins halves, so that each element goes through few hands, however many sequences there are. The list is read now: it is the caller's, who may change it ahead of a round.
func joined[T any](compare func(a, b T) int, l []iter.Seq[T]) iter.Seq[T] {
	switch len(l) {
	case 0:
		return nothing[T]
	case 1:
		return steady(l[0])
	}
	half := len(l) / 2
	return joinedTwo(compare, joined(compare, l[:half]), joined(compare, l[half:]))
}

func joinedTwo[T any](compare func(a, b T) int, a, b iter.Seq[T]) iter.Seq[T] {
	return func(yield func(T) bool) {
		rest := stepsOf(b)
		defer rest.stop()
		for x := range a {
			for rest.isBelow(compare, x) {
				if !yield(rest.take()) {
					return
				}
			}
			if rest.isLike(compare, x) {
				rest.take()
			}
			if !yield(x) {
				return
			}
		}
		for rest.more() {
			if !yield(rest.take()) {
				return
			}
		}
	}
}

// Meet tells those elements of a for which b has one like them.
func Meet[T any](compare func(a, b T) int, a, b iter.Seq[T]) iter.Seq[T] {
	return sifted(compare, a, b, true)
}

// Without tells those elements of a for which b has none like them.
func Without[T any](compare func(a, b T) int, a, b iter.Seq[T]) iter.Seq[T] {
	return sifted(compare, a, b, false)
}

// sifted tells those elements of a for which it is so, or isn't, that b has one like them.
func sifted[T any](compare func(a, b T) int, a, b iter.Seq[T], has bool) iter.Seq[T] {
	if compare == nil {
		return nothing[T]
	}
	return func(yield func(T) bool) {
		other := stepsOf(steady(b))
		defer other.stop()
		for x := range steady(a) {
			other.pass(compare, x)
			if other.isLike(compare, x) == has && !yield(x) {
				return
			}
			// Nothing more can be like one of b, and a may have no end.
			if has && !other.more() {
				return
			}
		}
	}
}

// Gather answers the first most elements of a sequence, and whether it has more.
func Gather[T any](s iter.Seq[T], most int) ([]T, bool) {
	// The room isn't made ahead, since most may be far more than there are.
	var l []T
	for x := range steady(s) {
		if len(l) >= most {
			return l, true
		}
		l = append(l, x)
	}
	return l, false
}

func nothing[T any](func(T) bool) {}

// steady is a sequence that is never nil, and that bears it if s goes on though no more is wanted, or hands something over when it has ended already, where a range over s would panic.
func steady[T any](s iter.Seq[T]) iter.Seq[T] {
	if s == nil {
		return nothing[T]
	}
	return func(yield func(T) bool) {
		wanted := true
		s(func(x T) bool {
			wanted = wanted && yield(x)
			return wanted
		})
		wanted = false
	}
}
