package shelf_test

import (
	"math"
	"slices"
	"strings"
	"testing"

	"latchkey/shelf"
)

// P11.1: New answers an empty Shelf, each time another one; none without a comparison.
func TestNew(t *testing.T) {
	if shelf.New[int](nil) != nil || shelf.New[pair](nil) != nil {
		t.Error("a Shelf without a comparison")
	}
	s, other := shelf.New(byNumber), shelf.New(byNumber)
	if s == nil || other == nil {
		t.Fatal("no Shelf")
	}
	wantPlain(t, s, nil, -3, 3)
	s.Add(one("1a"))
	wantPlain(t, other, nil, -3, 3)
	wantPlain(t, s, of("1a"), -3, 3)
}

// P11.1: what Add, Put and Remove answer and leave, of a Shelf with none, one and some elements, for what is there and what isn't.
func TestEachChange(t *testing.T) {
	for _, x := range []struct{ was, call, with, left, answer string }{
		{"", "Add", "5a", "5a", "true"},
		{"", "Put", "5a", "5a", "false"},
		{"", "Remove", "5a", "", "false"},
		{"5a", "Add", "5b", "5a", "false"},
		{"5a", "Add", "5a", "5a", "false"},
		{"5a", "Add", "4b", "4b 5a", "true"},
		{"5a", "Add", "6b", "5a 6b", "true"},
		{"5a", "Put", "5b", "5b", "true"},
		{"5a", "Put", "5a", "5a", "true"},
		{"5a", "Put", "4b", "4b 5a", "false"},
		{"5a", "Put", "6b", "5a 6b", "false"},
		{"5a", "Remove", "5b", "", "true"},
		{"5a", "Remove", "4a", "5a", "false"},
		{"5a", "Remove", "6a", "5a", "false"},
		{"1a 3b 5c", "Add", "0z", "0z 1a 3b 5c", "true"},
		{"1a 3b 5c", "Add", "1z", "1a 3b 5c", "false"},
		{"1a 3b 5c", "Add", "2z", "1a 2z 3b 5c", "true"},
		{"1a 3b 5c", "Add", "3z", "1a 3b 5c", "false"},
		{"1a 3b 5c", "Add", "6z", "1a 3b 5c 6z", "true"},
		{"1a 3b 5c", "Put", "0z", "0z 1a 3b 5c", "false"},
		{"1a 3b 5c", "Put", "1z", "1z 3b 5c", "true"},
		{"1a 3b 5c", "Put", "3z", "1a 3z 5c", "true"},
		{"1a 3b 5c", "Put", "4z", "1a 3b 4z 5c", "false"},
		{"1a 3b 5c", "Put", "5z", "1a 3b 5z", "true"},
		{"1a 3b 5c", "Put", "6z", "1a 3b 5c 6z", "false"},
		{"1a 3b 5c", "Remove", "0z", "1a 3b 5c", "false"},
		{"1a 3b 5c", "Remove", "1z", "3b 5c", "true"},
		{"1a 3b 5c", "Remove", "2z", "1a 3b 5c", "false"},
		{"1a 3b 5c", "Remove", "3z", "1a 5c", "true"},
		{"1a 3b 5c", "Remove", "5z", "1a 3b", "true"},
		{"1a 3b 5c", "Remove", "6z", "1a 3b 5c", "false"},
	} {
		s := made(x.was)
		calls := map[string]func(pair) bool{"Add": s.Add, "Put": s.Put, "Remove": s.Remove}
		name := x.call + " " + x.with + " with " + x.was
		wantBool(t, name, calls[x.call](one(x.with)), x.answer == "true")
		wantSeq(t, name, s.All(), x.left)
		wantPlain(t, s, of(x.left), -1, 8)
	}
}

// orders are the numbers below n, rising, falling, from both ends, from the middle on, and mixed.
func orders(n int) map[string][]int {
	rising := upTo(n)
	falling := slices.Clone(rising)
	slices.Reverse(falling)
	var ends, middle []int
	for i := range n {
		k := i / 2
		if i%2 == 1 {
			k = n - 1 - k
		}
		ends = append(ends, k)
		middle = append(middle, k)
	}
	slices.Reverse(middle)
	return map[string][]int{"rising": rising, "falling": falling, "from both ends": ends, "from the middle": middle, "mixed": seeded(int64(n)).Perm(n), "mixed otherwise": seeded(-1 - int64(n)).Perm(n)}
}

// P11.1, P11.2: Shelves put together in each order and taken out again in each, all asked behind each change.
func TestOrdersOfChanges(t *testing.T) {
	for _, n := range []int{1, 2, 3, 4, 7, 20} {
		for _, in := range orders(n) {
			for _, out := range orders(n) {
				s := shelf.New(byNumber)
				var p plain
				for _, k := range in {
					x := pair{k, 'a'}
					wantBool(t, "Add", s.Add(x), p.add(x))
					wantPlain(t, s, p, -1, n)
				}
				for _, k := range out {
					x := pair{k, 'b'}
					wantBool(t, "Put", s.Put(x), p.put(x))
				}
				wantPlain(t, s, p, -1, n)
				for _, k := range out {
					x := pair{k, 'c'}
					wantBool(t, "Remove", s.Remove(x), p.remove(x))
					wantPlain(t, s, p, -1, n)
				}
				if t.Failed() {
					t.Fatal("in", in, "out", out)
				}
			}
		}
	}
}

// P11.1, P11.2: all Shelves of some few numbers, in each order in which they can come and go.
func TestEveryOrder(t *testing.T) {
	const n = 5
	var arrange func(in []int, then func(in []int))
	arrange = func(in []int, then func(in []int)) {
		if len(in) == n {
			then(in)
			return
		}
		for k := range n {
			if !slices.Contains(in, k) {
				arrange(append(slices.Clip(in), k), then)
			}
		}
	}
	arrange(nil, func(in []int) {
		arrange(nil, func(out []int) {
			s := shelf.New(func(a, b int) int { return a - b })
			for _, k := range in {
				s.Add(k)
			}
			left := upTo(n)
			for _, k := range out {
				left = slices.DeleteFunc(left, func(x int) bool { return x == k })
				if !s.Remove(k) || !slices.Equal(slices.Collect(s.All()), left) {
					t.Fatal("in", in, "out", out, "at", k)
				}
			}
		})
	})
}

// P11.1, P11.2: any changes, one behind the other, held against a plain list.
func TestAnyChanges(t *testing.T) {
	for n := range int64(300) {
		c := seeded(n)
		high := 1 + c.Intn(60)
		s := shelf.New(byNumber)
		var p plain
		for i := range 200 {
			x := pair{c.Intn(high), byte('a' + c.Intn(26))}
			// In some stretches more comes, in others more goes.
			switch k := c.Intn(6); {
			case k < 2:
				wantBool(t, "Add", s.Add(x), p.add(x))
			case k < 3 || i/50%2 == 0 && k < 4:
				wantBool(t, "Put", s.Put(x), p.put(x))
			default:
				wantBool(t, "Remove", s.Remove(x), p.remove(x))
			}
			if i%10 == 0 {
				wantPlain(t, s, p, -1, high)
			}
		}
		wantPlain(t, s, p, -1, high)
		if t.Failed() {
			t.Fatal("seed", n)
		}
	}
}

// P11.1, P11.2: many elements, put in and taken out in each order.
func TestManyElements(t *testing.T) {
	const n = 20000
	for name, in := range orders(n) {
		s := shelf.New(func(a, b int) int { return a - b })
		for _, k := range in {
			if !s.Add(2 * k) {
				t.Fatal(name, k)
			}
		}
		if s.Len() != n {
			t.Error(name, s.Len())
		}
		for k := range n {
			x, ok := s.Nth(k)
			y, found := s.Find(2 * k)
			z, wrong := s.Find(2*k + 1)
			if x != 2*k || !ok || y != 2*k || !found || z != 0 || wrong || s.Rank(2*k) != k || s.Rank(2*k+1) != k+1 {
				t.Fatal(name, k)
			}
		}
		for i, k := range in {
			if i%3 != 0 && (!s.Remove(2*k) || s.Remove(2*k) || s.Remove(2*k+1)) {
				t.Fatal(name, k)
			}
		}
		var left []int
		for i, k := range in {
			if i%3 == 0 {
				left = append(left, 2*k)
			}
		}
		slices.Sort(left)
		wantList(t, name, slices.Collect(s.All()), left)
	}
}

// P11.1: comparisons that answer any numbers, not -1 and 1 alone, and of elements of any type.
func TestAnyComparison(t *testing.T) {
	far := shelf.New(func(a, b int) int {
		switch {
		case a < b:
			return math.MinInt
		case a > b:
			return math.MaxInt
		}
		return 0
	})
	falling := shelf.New(func(a, b int) int { return b - a })
	for _, k := range []int{3, 1, 2, 3, 0} {
		far.Add(k)
		falling.Add(k)
	}
	wantList(t, "far", slices.Collect(far.All()), []int{0, 1, 2, 3})
	wantList(t, "falling", slices.Collect(falling.All()), []int{3, 2, 1, 0})
	wantList(t, "falling from", slices.Collect(falling.From(2)), []int{2, 1, 0})
	if far.Rank(2) != 2 || falling.Rank(0) != 3 {
		t.Error("Rank")
	}
	texts := shelf.New(strings.Compare)
	for _, s := range []string{"b", "", "ab", "a", "\xff", "a\x00", "a"} {
		texts.Put(s)
	}
	wantList(t, "texts", slices.Collect(texts.All()), []string{"", "a", "a\x00", "ab", "b", "\xff"})
	// All are like one another: there is one at most.
	same := shelf.New(func(a, b pair) int { return 0 })
	if !same.Add(one("1a")) || same.Add(one("2b")) || !same.Put(one("3c")) || same.Len() != 1 {
		t.Error("like ones")
	}
	wantSeq(t, "like ones", same.All(), "3c")
	wantBool(t, "Remove", same.Remove(one("9z")), true)
	// Elements without any content, and elements that can't be compared by the language.
	empty := shelf.New(func(a, b struct{}) int { return 0 })
	if !empty.Add(struct{}{}) || empty.Add(struct{}{}) || empty.Len() != 1 {
		t.Error("elements without content")
	}
	lists := shelf.New(slices.Compare[[]int])
	lists.Add([]int{2})
	lists.Add([]int{1, 5})
	if x, ok := lists.Nth(0); !ok || !slices.Equal(x, []int{1, 5}) {
		t.Error(x, ok)
	}
}

// What lies within an element isn't copied: it comes as it went.
func TestElementsAsTheyAre(t *testing.T) {
	s := shelf.New(func(a, b *pair) int { return a.n - b.n })
	x, y := &pair{1, 'a'}, &pair{1, 'b'}
	s.Add(x)
	s.Add(y)
	if z, ok := s.Find(y); z != x || !ok {
		t.Error("Find")
	}
	s.Put(y)
	for _, f := range []*shelf.Shelf[*pair]{s, s.Freeze()} {
		if z, ok := f.Nth(0); z != y || !ok {
			t.Error("Nth")
		}
		if l := slices.Collect(f.All()); len(l) != 1 || l[0] != y {
			t.Error("All")
		}
	}
	if z, ok := s.Find(&pair{2, 'a'}); z != nil || ok {
		t.Error("what isn't there")
	}
}
