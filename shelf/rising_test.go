package shelf_test

import (
	"iter"
	"slices"
	"testing"

	"latchkey/shelf"
)

func wantJoin(t *testing.T, lists [][]pair) {
	t.Helper()
	var l []iter.Seq[pair]
	for _, x := range lists {
		l = append(l, slices.Values(x))
	}
	if got, want := slices.Collect(shelf.Join(byNumber, l...)), joinOf(lists...); !slices.Equal(got, want) {
		t.Errorf("Join%v = %v, want %v", lists, got, want)
	}
}

func wantSift(t *testing.T, a, b []pair) {
	t.Helper()
	x, y := slices.Values(a), slices.Values(b)
	if got, want := slices.Collect(shelf.Meet(byNumber, x, y)), siftOf(a, b, true); !slices.Equal(got, want) {
		t.Errorf("Meet(%v, %v) = %v, want %v", a, b, got, want)
	}
	if got, want := slices.Collect(shelf.Without(byNumber, x, y)), siftOf(a, b, false); !slices.Equal(got, want) {
		t.Errorf("Without(%v, %v) = %v, want %v", a, b, got, want)
	}
}

// setOf are the numbers below n whose bits are set, rising, with a letter.
func setOf(bits, n int, c byte) []pair {
	var l []pair
	for k := range n {
		if bits>>k&1 == 1 {
			l = append(l, pair{k, c})
		}
	}
	return l
}

// P11.6: all pairs of rising sequences of up to five numbers.
func TestEveryTwo(t *testing.T) {
	const n = 5
	for i := range 1 << n {
		for j := range 1 << n {
			a, b := setOf(i, n, 'a'), setOf(j, n, 'b')
			wantSift(t, a, b)
			wantJoin(t, [][]pair{a, b})
		}
	}
}

// P11.6: all rows of three, four and five rising sequences of few numbers.
func TestEveryFew(t *testing.T) {
	for _, x := range []struct{ count, n int }{{1, 4}, {3, 3}, {4, 2}, {5, 2}, {7, 1}} {
		for bits := range 1 << (x.count * x.n) {
			var lists [][]pair
			for k := range x.count {
				lists = append(lists, setOf(bits>>(k*x.n), x.n, byte('a'+k)))
			}
			wantJoin(t, lists)
		}
	}
}

// P11.6: any number of sequences of any length, some nil.
func TestAnyRising(t *testing.T) {
	for n := range int64(400) {
		c := seeded(n)
		high := 1 + c.Intn(80)
		var lists [][]pair
		for k := range c.Intn(20) {
			var l []pair
			seldom := 1 + c.Intn(5)
			for i := range high {
				if c.Intn(seldom) == 0 {
					l = append(l, pair{i - high/2, byte('a' + k)})
				}
			}
			lists = append(lists, l)
		}
		wantJoin(t, lists)
		for len(lists) > 1 {
			wantSift(t, lists[0], lists[1])
			wantSift(t, lists[1], lists[0])
			lists = lists[2:]
		}
	}
}

// P11.6: of like ones that of the first sequence that has one, wherever it stands.
func TestJoinTakesTheFirst(t *testing.T) {
	for count := 1; count <= 9; count++ {
		for from := range count {
			var l []iter.Seq[pair]
			for k := range count {
				if k < from {
					l = append(l, slices.Values([]pair{{k + 10, '-'}}))
				} else {
					l = append(l, slices.Values([]pair{{1, byte('a' + k)}, {5, byte('a' + k)}}))
				}
			}
			got := slices.Collect(shelf.Join(byNumber, l...))
			c := byte('a' + from)
			if len(got) != from+2 || got[0] != (pair{1, c}) || got[1] != (pair{5, c}) {
				t.Errorf("%d sequences, the first %d without: %v", count, from, got)
			}
		}
	}
}

// P11.6: sequences that are nil have no elements; where there is no comparison there is nothing, and nobody is asked.
func TestNilSequences(t *testing.T) {
	a := seq("1a 2b 3c")
	for name, x := range map[string]struct {
		got  iter.Seq[pair]
		want string
	}{
		"Join()":              {shelf.Join(byNumber), ""},
		"Join(nil)":           {shelf.Join(byNumber, nil), ""},
		"Join of no list":     {shelf.Join(byNumber, []iter.Seq[pair]{}...), ""},
		"Join(nil, nil, nil)": {shelf.Join(byNumber, nil, nil, nil), ""},
		"Join(a)":             {shelf.Join(byNumber, a), "1a 2b 3c"},
		"Join(a, nil)":        {shelf.Join(byNumber, a, nil), "1a 2b 3c"},
		"Join(nil, a)":        {shelf.Join(byNumber, nil, a), "1a 2b 3c"},
		"Join(nil, a, nil)":   {shelf.Join(byNumber, nil, a, nil), "1a 2b 3c"},
		"Meet(a, nil)":        {shelf.Meet(byNumber, a, nil), ""},
		"Meet(nil, a)":        {shelf.Meet(byNumber, nil, a), ""},
		"Meet(nil, nil)":      {shelf.Meet(byNumber, nil, nil), ""},
		"Without(a, nil)":     {shelf.Without(byNumber, a, nil), "1a 2b 3c"},
		"Without(nil, a)":     {shelf.Without(byNumber, nil, a), ""},
		"Without(nil, nil)":   {shelf.Without(byNumber, nil, nil), ""},
	} {
		if x.got == nil {
			t.Error(name, "is nil")
		}
		wantSeq(t, name, x.got, x.want)
		wantSeq(t, name+" again", x.got, x.want)
	}
	w := watch(a)
	for name, s := range madeOf(nil, w.seq, w.seq) {
		if s == nil {
			t.Error(name, "is nil")
		}
		wantSeq(t, name+" without a comparison", s, "")
	}
	if w.begun != 0 {
		t.Error("gone through without a comparison")
	}
}

// madeOf are the sequences that can be made of two.
func madeOf[T any](compare func(a, b T) int, a, b iter.Seq[T]) map[string]iter.Seq[T] {
	return map[string]iter.Seq[T]{
		"Join":        shelf.Join(compare, a, b),
		"Meet":        shelf.Meet(compare, a, b),
		"Without":     shelf.Without(compare, a, b),
		"Join of one": shelf.Join(compare, a),
		"Join of six": shelf.Join(compare, a, b, b, a, a, b),
	}
}

// P11.6: the elements are those of the sequences themselves, as they are: of Meet and Without those of a.
func TestWhoseElements(t *testing.T) {
	a, b := seq("1a 2a 3a"), seq("2b 3b 4b")
	wantSeq(t, "Join", shelf.Join(byNumber, a, b), "1a 2a 3a 4b")
	wantSeq(t, "Join", shelf.Join(byNumber, b, a), "1a 2b 3b 4b")
	wantSeq(t, "Meet", shelf.Meet(byNumber, a, b), "2a 3a")
	wantSeq(t, "Meet", shelf.Meet(byNumber, b, a), "2b 3b")
	wantSeq(t, "Without", shelf.Without(byNumber, a, b), "1a")
	wantSeq(t, "Without", shelf.Without(byNumber, b, a), "4b")
	wantSeq(t, "with itself", shelf.Join(byNumber, a, a), "1a 2a 3a")
	wantSeq(t, "with itself", shelf.Meet(byNumber, a, a), "1a 2a 3a")
	wantSeq(t, "with itself", shelf.Without(byNumber, a, a), "")
}

// P11.6: what is made can be made more of, of Shelves too, by another comparison than numbers rising.
func TestMadeOfWhatIsMade(t *testing.T) {
	falling := func(a, b int) int { return b - a }
	multiples := func(k int) iter.Seq[int] {
		s := shelf.New(falling)
		for n := 0; n < 120; n += k {
			s.Add(n)
		}
		return s.All()
	}
	got := shelf.Without(falling, shelf.Join(falling, multiples(6), shelf.Meet(falling, multiples(5), multiples(7)), multiples(10)), shelf.Join(falling, multiples(4), multiples(15)))
	var want []int
	for n := 119; n >= 0; n-- {
		if (n%6 == 0 || n%35 == 0 || n%10 == 0) && n%4 != 0 && n%15 != 0 {
			want = append(want, n)
		}
	}
	wantList(t, "made of what is made", slices.Collect(got), want)
	wantList(t, "again", slices.Collect(got), want)
}

// P11.6: very many sequences at one time.
func TestJoinOfMany(t *testing.T) {
	var l []iter.Seq[int]
	for k := range 1500 {
		l = append(l, slices.Values([]int{k % 700, k + 1000, k + 2000}))
	}
	got := slices.Collect(shelf.Join(func(a, b int) int { return a - b }, l...))
	wantList(t, "of many", got, append(upTo(700), upTo(3500)[1000:]...))
}

// P11.6: very long sequences.
func TestLongSequences(t *testing.T) {
	const n = 100000
	order := func(a, b int) int { return a - b }
	count := func(s iter.Seq[int], good func(k int) bool) {
		t.Helper()
		k := 0
		for x := range s {
			for !good(k) {
				k++
			}
			if x != k {
				t.Fatal(x, k)
			}
			k++
		}
		for ; k < n; k++ {
			if good(k) {
				t.Fatal(k, "wasn't told")
			}
		}
	}
	two, three := upToBy(n, 2), upToBy(n, 3)
	count(shelf.Join(order, two, three), func(k int) bool { return k%2 == 0 || k%3 == 0 })
	count(shelf.Meet(order, two, three), func(k int) bool { return k%6 == 0 })
	count(shelf.Without(order, two, three), func(k int) bool { return k%2 == 0 && k%3 != 0 })
}

// upToBy tells the multiples of k below n.
func upToBy(n, k int) iter.Seq[int] {
	return func(yield func(int) bool) {
		for x := 0; x < n && yield(x); x += k {
		}
	}
}
