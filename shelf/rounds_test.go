package shelf_test

import (
	"iter"
	"runtime"
	"slices"
	"testing"
	"time"

	"latchkey/shelf"
)

func byInt(a, b int) int {
	return a - b
}

// wantGone asks of a sequence that it was begun that often at most, and that no round through it is under way.
func wantGone[T any](t *testing.T, name string, w *watched[T], most int) {
	t.Helper()
	if w.begun > most || w.under != 0 {
		t.Errorf("%s: begun %d times, %d at most; %d under way", name, w.begun, most, w.under)
	}
}

// P11.6: each round goes through the sequences anew, each once at most, and leaves none under way, wherever it is left.
func TestEachRoundOnce(t *testing.T) {
	a, b := upTo(12), []int{1, 3, 4, 5, 8, 11, 12, 13}
	join := func(l ...iter.Seq[int]) iter.Seq[int] { return shelf.Join(byInt, l...) }
	for name, x := range map[string]struct {
		of    func(l ...iter.Seq[int]) iter.Seq[int]
		lists [][]int
		want  []int
	}{
		"Join":        {join, [][]int{a, b}, upTo(14)},
		"Join of one": {join, [][]int{b}, b},
		"Join of six": {join, [][]int{b, a, a, b, b, a}, upTo(14)},
		"Meet":        {func(l ...iter.Seq[int]) iter.Seq[int] { return shelf.Meet(byInt, l[0], l[1]) }, [][]int{a, b}, b[:6]},
		"Without":     {func(l ...iter.Seq[int]) iter.Seq[int] { return shelf.Without(byInt, l[0], l[1]) }, [][]int{a, b}, []int{0, 2, 6, 7, 9, 10}},
	} {
		for k := range len(x.want) + 2 {
			var l []*watched[int]
			var in []iter.Seq[int]
			for _, list := range x.lists {
				w := watch(slices.Values(list))
				l, in = append(l, w), append(in, w.seq)
			}
			made := x.of(in...)
			for round := range 4 {
				for _, w := range l {
					wantGone(t, name, w, round)
				}
				wantList(t, name, first(made, k), x.want[:min(k, len(x.want))])
			}
			wantList(t, name+", the whole", slices.Collect(made), x.want)
			for _, w := range l {
				wantGone(t, name+", the whole", w, 5)
				if w.begun < 1 {
					t.Error(name, "a sequence was never gone through")
				}
			}
		}
	}
}

// P11.6: a round shows what the sequences tell when it goes through them.
func TestRoundsAnew(t *testing.T) {
	a, b := []int{1, 2, 3}, []int{2, 3, 4}
	live := func(l *[]int) iter.Seq[int] {
		return func(yield func(int) bool) {
			for _, x := range *l {
				if !yield(x) {
					return
				}
			}
		}
	}
	join, meet, without := shelf.Join(byInt, live(&a), live(&b)), shelf.Meet(byInt, live(&a), live(&b)), shelf.Without(byInt, live(&a), live(&b))
	wantList(t, "Join", slices.Collect(join), []int{1, 2, 3, 4})
	wantList(t, "Meet", slices.Collect(meet), []int{2, 3})
	wantList(t, "Without", slices.Collect(without), []int{1})
	a, b = []int{0, 4, 7}, []int{4, 5}
	wantList(t, "Join", slices.Collect(join), []int{0, 4, 5, 7})
	wantList(t, "Meet", slices.Collect(meet), []int{4})
	wantList(t, "Without", slices.Collect(without), []int{0, 7})
}

// P11.6: rounds within one another, each left at another place.
func TestRoundsWithinOneAnother(t *testing.T) {
	x, y := watch(slices.Values(upTo(20))), watch(upToBy(40, 3))
	for name, s := range madeOf(byInt, x.seq, y.seq) {
		whole := slices.Collect(s)
		for i, k := range whole {
			if i > 4 {
				break
			}
			var outer []int
			for z := range s {
				outer = append(outer, z)
				wantList(t, name+", within", first(s, i+1), whole[:i+1])
				if z == k {
					break
				}
			}
			wantList(t, name, outer, whole[:i+1])
			if x.under != 0 || y.under != 0 {
				t.Errorf("%s: %d and %d under way", name, x.under, y.under)
			}
		}
	}
}

// P11.6: sequences that have no end, both, the first one or the second one.
func TestWithoutEnd(t *testing.T) {
	few := slices.Values([]int{2, 3, 6, 9, 100})
	for _, x := range []struct {
		name string
		a, b iter.Seq[int]
		make func(compare func(a, b int) int, a, b iter.Seq[int]) iter.Seq[int]
		want []int
		all  bool // there are no more
	}{
		{"Join", endless(2), endless(3), joinTwo, []int{0, 2, 3, 4, 6, 8, 9, 10, 12}, false},
		{"Join", endless(2), few, joinTwo, []int{0, 2, 3, 4, 6, 8, 9, 10}, false},
		{"Join", few, endless(2), joinTwo, []int{0, 2, 3, 4, 6, 8, 9, 10}, false},
		{"Join", nil, endless(5), joinTwo, []int{0, 5, 10}, false},
		{"Join", endless(5), nil, joinTwo, []int{0, 5, 10}, false},
		{"Meet", endless(2), endless(3), shelf.Meet[int], []int{0, 6, 12, 18}, false},
		{"Meet", endless(2), few, shelf.Meet[int], []int{2, 6, 100}, true},
		{"Meet", few, endless(2), shelf.Meet[int], []int{2, 6, 100}, true},
		{"Meet", nil, endless(2), shelf.Meet[int], nil, true},
		{"Meet", endless(2), nil, shelf.Meet[int], nil, true},
		{"Without", endless(2), endless(3), shelf.Without[int], []int{2, 4, 8, 10, 14}, false},
		{"Without", endless(2), few, shelf.Without[int], []int{0, 4, 8, 10, 12}, false},
		{"Without", few, endless(2), shelf.Without[int], []int{3, 9}, true},
		{"Without", nil, endless(2), shelf.Without[int], nil, true},
		{"Without", endless(2), nil, shelf.Without[int], []int{0, 2, 4}, false},
	} {
		a, b := watch(steady(x.a)), watch(steady(x.b))
		most := len(x.want)
		if x.all {
			most++
		}
		for range 2 {
			got, more := shelf.Gather(x.make(byInt, a.seq, b.seq), most)
			wantList(t, x.name, got, x.want)
			wantBool(t, x.name+" has more", more, !x.all)
			wantGone(t, x.name, a, 2)
			wantGone(t, x.name, b, 2)
		}
	}
	// Of many without end, and of what is made of some.
	got, more := shelf.Gather(shelf.Join(byInt, endless(7), shelf.Meet(byInt, endless(2), endless(5)), endless(6), few, endless(9)), 9)
	wantList(t, "many", got, []int{0, 2, 3, 6, 7, 9, 10, 12, 14})
	wantBool(t, "many have more", more, true)
}

// joinTwo is Join of two, called as Meet is.
func joinTwo[T any](compare func(a, b T) int, a, b iter.Seq[T]) iter.Seq[T] {
	return shelf.Join(compare, a, b)
}

// steady has no elements where s is nil, so that it can be watched.
func steady[T any](s iter.Seq[T]) iter.Seq[T] {
	if s == nil {
		return slices.Values([]T(nil))
	}
	return s
}

// P11.6: sequences that don't rise, or that have like ones side by side: what is made of them ends, each round, none under way.
func TestThoseThatDontRise(t *testing.T) {
	for n := range int64(300) {
		c := seeded(n)
		lists := make([][]int, 6)
		for i := range lists {
			for range c.Intn(30) {
				lists[i] = append(lists[i], c.Intn(12))
			}
		}
		x, y := watch(slices.Values(lists[0])), watch(slices.Values(lists[1]))
		for name, s := range madeOf(byInt, x.seq, y.seq) {
			x.begun, y.begun = 0, 0
			one, two := slices.Collect(s), slices.Collect(s)
			wantList(t, name+" again", two, one)
			if len(one) > 3*(len(lists[0])+len(lists[1])) {
				t.Error(name, len(one))
			}
			if x.under != 0 || y.under != 0 {
				t.Errorf("%s: %d and %d under way", name, x.under, y.under)
			}
		}
		x.begun, y.begun = 0, 0
		for range shelf.Join(byInt, x.seq, y.seq) {
		}
		wantGone(t, "Join", x, 1)
		wantGone(t, "Join", y, 1)
	}
}

// P11.6: a round that is left by a panic, or by the end of a goroutine, leaves no sequence under way either.
func TestRoundLeftByPanic(t *testing.T) {
	x, y := watch(endless(2)), watch(endless(3))
	for name, s := range madeOf(byInt, x.seq, y.seq) {
		if fault := caught(func() {
			for z := range s {
				if z >= 12 {
					panic("enough")
				}
			}
		}); fault != "enough" {
			t.Error(name, fault)
		}
		if x.under != 0 || y.under != 0 {
			t.Errorf("%s: %d and %d under way", name, x.under, y.under)
		}
		done := make(chan struct{})
		go func() {
			defer close(done)
			for range s {
				runtime.Goexit()
			}
		}()
		<-done
		if x.under != 0 || y.under != 0 {
			t.Errorf("%s, ended: %d and %d under way", name, x.under, y.under)
		}
	}
}

// What a sequence or a comparison of the caller's own panics with comes to whoever goes round, not to the whole program; no other sequence is left under way.
func TestPanicsOfTheCallersOwn(t *testing.T) {
	failing := func(yield func(int) bool) {
		for n := range 5 {
			if !yield(n * 3) {
				return
			}
		}
		panic("the sequence")
	}
	for i := range 2 {
		x := watch(endless(2))
		a, b := iter.Seq[int](failing), iter.Seq[int](x.seq)
		if i == 1 {
			a, b = b, a
		}
		for name, s := range madeOf(byInt, a, b) {
			if i == 1 && name == "Join of one" {
				continue
			}
			if fault := caught(func() {
				for range s {
				}
			}); fault != "the sequence" {
				t.Error(name, i, fault)
			}
			if x.under != 0 {
				t.Errorf("%s: %d under way", name, x.under)
			}
		}
	}
	x, y := watch(endless(2)), watch(endless(3))
	asked := 0
	for name, s := range madeOf(func(a, b int) int {
		if asked++; asked > 10 {
			panic("the comparison")
		}
		return a - b
	}, x.seq, y.seq) {
		asked = 0
		if name == "Join of one" {
			continue
		}
		if fault := caught(func() {
			for range s {
			}
		}); fault != "the comparison" {
			t.Error(name, fault)
		}
		if x.under != 0 || y.under != 0 {
			t.Errorf("%s: %d and %d under way", name, x.under, y.under)
		}
	}
}

// A sequence that panics when it is left is heard too.
func TestPanicOfOneThatIsLeft(t *testing.T) {
	sour := func(yield func(int) bool) {
		for n := 0; ; n++ {
			if !yield(n) {
				panic("left")
			}
		}
	}
	for i := range 2 {
		x := watch(endless(1))
		a, b := iter.Seq[int](sour), iter.Seq[int](x.seq)
		if i == 1 {
			a, b = b, a
		}
		for name, s := range map[string]iter.Seq[int]{"Join": shelf.Join(byInt, a, b), "Meet": shelf.Meet(byInt, a, b)} {
			if fault := caught(func() { first(s, 3) }); fault != "left" {
				t.Error(name, i, fault)
			}
			if x.under != 0 {
				t.Errorf("%s: %d under way", name, x.under)
			}
		}
	}
}

// deaf tells the numbers below n, going on though no more is wanted; late hands one more over when it has ended, and says whether that was wanted.
func deaf(n int) (s iter.Seq[int], late func() bool) {
	kept := func(int) bool { return false }
	return func(yield func(int) bool) {
		kept = yield
		for k := range n {
			yield(k)
		}
	}, func() bool { return kept(n) }
}

// Any argument: of a sequence that goes on though no more is wanted, or when it has ended, nothing more is taken, and no call panics.
func TestSequencesThatGoOn(t *testing.T) {
	for _, most := range []int{0, 1, 4, 19, 20, 21, 100} {
		s, late := deaf(20)
		l, more := shelf.Gather(s, most)
		wantList(t, "Gather", l, upTo(min(most, 20)))
		wantBool(t, "Gather has more", more, most < 20)
		wantBool(t, "one more", late(), false)
	}
	a, late := deaf(20)
	b, later := deaf(30)
	for name, s := range madeOf(byInt, a, b) {
		all := slices.Collect(s)
		wantBool(t, "one more", late() || later(), false)
		if most := map[string]int{"Join": 30, "Meet": 20, "Without": 0, "Join of one": 20, "Join of six": 30}[name]; !slices.Equal(all, upTo(most)) {
			t.Error(name, all)
		}
		for k := range all {
			wantList(t, name, first(s, k), all[:k])
			wantBool(t, "one more", late() || later(), false)
		}
	}
}

// A sequence that ends the goroutine in which it runs has ended.
func TestSequenceThatEndsItsGoroutine(t *testing.T) {
	s := func(yield func(int) bool) {
		if yield(1) && yield(2) {
			runtime.Goexit()
		}
	}
	wantList(t, "Join", slices.Collect(shelf.Join(byInt, slices.Values([]int{0, 2, 4}), s)), []int{0, 1, 2, 4})
}

// P11.6: what is made may be asked step by step, by one who goes on with other things meanwhile.
func TestAskedStepByStep(t *testing.T) {
	x, y := watch(endless(2)), watch(endless(3))
	for name, s := range madeOf(byInt, x.seq, y.seq) {
		want := first(s, 4)
		next, stop := iter.Pull(s)
		other, stopOther := iter.Pull(s)
		for _, k := range want {
			for _, call := range []func() (int, bool){next, other} {
				if got, ok := call(); got != k || !ok {
					t.Error(name, got, ok, k)
				}
			}
		}
		stop()
		stopOther()
		if x.under != 0 || y.under != 0 {
			t.Errorf("%s: %d and %d under way", name, x.under, y.under)
		}
	}
}

// P11.6: the same round asks the sequences for the same, and never for more than one element beyond what is told.
func TestAskedNoFurther(t *testing.T) {
	for k := 1; k < 20; k++ {
		for range 5 {
			x, y := watch(endless(2)), watch(endless(3))
			got := first(shelf.Join(byInt, x.seq, y.seq), k)
			last := got[k-1]
			if most := last/2 + 2; x.given > most {
				t.Errorf("the first one was asked for %d, %d at most", x.given, most)
			}
			if most := last/3 + 2; y.given > most {
				t.Errorf("the second one was asked for %d, %d at most", y.given, most)
			}
		}
	}
	var given [][2]int
	for range 20 {
		x, y := watch(endless(2)), watch(endless(3))
		first(shelf.Meet(byInt, x.seq, y.seq), 5)
		first(shelf.Without(byInt, x.seq, y.seq), 5)
		first(shelf.Join(byInt, y.seq, x.seq, y.seq, x.seq), 5)
		given = append(given, [2]int{x.given, y.given})
	}
	if len(slices.Compact(given)) != 1 {
		t.Error("the same rounds asked for", given)
	}
}

// DOC.md, Sameness: no call leaves a goroutine behind.
func TestNoGoroutineStays(t *testing.T) {
	was := runtime.NumGoroutine()
	for range 200 {
		for _, s := range madeOf(byInt, endless(2), endless(3)) {
			s(func(k int) bool { return k < 4 })
			caught(func() {
				for range s {
					panic("enough")
				}
			})
		}
		for _, s := range madeOf(byInt, slices.Values(upTo(9)), slices.Values(upTo(7))) {
			for range s {
			}
		}
	}
	// One that has done its last thing may be there for a moment still.
	for range 1000 {
		if runtime.NumGoroutine() <= was {
			return
		}
		time.Sleep(time.Millisecond)
	}
	t.Errorf("%d goroutines, %d ahead", runtime.NumGoroutine(), was)
}
