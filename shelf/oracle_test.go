package shelf_test

import (
	"slices"
	"testing"

	"latchkey/shelf"
)

// plain is a Shelf as the chapter says it: pairs in no order, each looked at one by one.
type plain []pair

// like answers where the pair like x is, or -1.
func (p plain) like(x pair) int {
	return slices.IndexFunc(p, func(y pair) bool { return y.n == x.n })
}

func (p *plain) add(x pair) bool {
	if p.like(x) >= 0 {
		return false
	}
	*p = append(*p, x)
	return true
}

func (p *plain) put(x pair) bool {
	if i := p.like(x); i >= 0 {
		(*p)[i] = x
		return true
	}
	*p = append(*p, x)
	return false
}

func (p *plain) remove(x pair) bool {
	i := p.like(x)
	if i >= 0 {
		*p = slices.Delete(*p, i, i+1)
	}
	return i >= 0
}

// below answers how many are below x.
func (p plain) below(x pair) int {
	n := 0
	for _, y := range p {
		if y.n < x.n {
			n++
		}
	}
	return n
}

// rising are the pairs, each at the place that the number of those below it says.
func (p plain) rising() []pair {
	l := make([]pair, len(p))
	for _, x := range p {
		l[p.below(x)] = x
	}
	return l
}

// wantPlain holds all that can be asked of a Shelf against a plain one, with numbers from low to high and places from below 0 on.
func wantPlain(t *testing.T, s *shelf.Shelf[pair], p plain, low, high int) {
	t.Helper()
	l := p.rising()
	if s.Len() != len(l) {
		t.Errorf("Len %d, want %d", s.Len(), len(l))
	}
	wantList(t, "All", slices.Collect(s.All()), l)
	for i := -2; i < len(l)+2; i++ {
		x, ok := s.Nth(i)
		if i < 0 || i >= len(l) {
			wantPair(t, "Nth beyond", x, ok, "")
		} else if !ok || x != l[i] {
			t.Errorf("Nth(%d) of %s: %v, %v", i, brief(l), x, ok)
		}
	}
	for n := low; n <= high; n++ {
		x := pair{n, '?'}
		k := p.below(x)
		if got := s.Rank(x); got != k {
			t.Errorf("Rank(%d) of %s: %d", n, brief(l), got)
		}
		wantList(t, "From", slices.Collect(s.From(x)), l[k:])
		y, ok := s.Find(x)
		if i := p.like(x); i < 0 {
			wantPair(t, "Find", y, ok, "")
		} else if !ok || y != p[i] {
			t.Errorf("Find(%d) of %s: %v, %v", n, brief(l), y, ok)
		}
	}
}

// hasLike says whether a list has a pair like x.
func hasLike(l []pair, x pair) bool {
	return plain(l).like(x) >= 0
}

// joinOf is Join by the chapter's words: of each pair that some list has, that of the first list that has one like it.
func joinOf(lists ...[]pair) []pair {
	var p plain
	for _, l := range lists {
		for _, x := range l {
			p.add(x)
		}
	}
	return p.rising()
}

// siftOf are the pairs of a for which b has one like them, or has none.
func siftOf(a, b []pair, has bool) []pair {
	var l []pair
	for _, x := range a {
		if hasLike(b, x) == has {
			l = append(l, x)
		}
	}
	return l
}
