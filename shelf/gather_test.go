package shelf_test

import (
	"iter"
	"math"
	"slices"
	"testing"

	"latchkey/shelf"
)

func wantGather[T comparable](t *testing.T, s iter.Seq[T], most int, list []T, more bool) {
	t.Helper()
	got, also := shelf.Gather(s, most)
	if !slices.Equal(got, list) || also != more {
		t.Errorf("Gather with %d: %s, %v, want %s, %v", most, brief(got), also, brief(list), more)
	}
}

// P11.7: none, as many as there are, one fewer, one more, far more; and how many elements are asked for.
func TestGather(t *testing.T) {
	for _, n := range []int{0, 1, 2, 3, 10, 100, 1000} {
		all := upTo(n)
		for _, most := range []int{math.MinInt, -5, -1, 0, 1, 2, n - 1, n, n + 1, 2 * n, 1 << 40, math.MaxInt} {
			w := watch(slices.Values(all))
			answered := min(max(most, 0), n)
			wantGather(t, w.seq, most, all[:answered], answered < n)
			if asked := min(answered+1, n); w.given != asked || w.begun != 1 || w.under != 0 {
				t.Errorf("of %d with %d: %d asked for, %d rounds, %d under way", n, most, w.given, w.begun, w.under)
			}
		}
	}
}

// P11.7: elements in the order in which they come, like ones too, whether they rise or not.
func TestGatherAsTheyCome(t *testing.T) {
	l := of("3a 1b 3c 3a 2d 1b")
	for most := range 6 {
		wantGather(t, slices.Values(l), most, l[:most], true)
	}
	wantGather(t, slices.Values(l), 6, l, false)
}

// P11.7: of a sequence that has no end.
func TestGatherWithoutEnd(t *testing.T) {
	for _, most := range []int{-1, 0, 1, 2, 1000} {
		w := watch(endless(1))
		wantGather(t, w.seq, most, upTo(max(most, 0)), true)
		if w.given != max(most, 0)+1 || w.under != 0 {
			t.Errorf("with %d: %d asked for, %d under way", most, w.given, w.under)
		}
	}
}

// P11.7: nil has no elements.
func TestGatherOfNil(t *testing.T) {
	for _, most := range []int{math.MinInt, -1, 0, 1, math.MaxInt} {
		wantGather[int](t, nil, most, nil, false)
	}
}

// P11.7: the answer is new memory: neither another answer nor what the elements came from shows what is written there, nor does the room behind it.
func TestGatherIsTheCallers(t *testing.T) {
	in := upTo(5)
	for most := range 8 {
		one, _ := shelf.Gather(slices.Values(in), most)
		two, _ := shelf.Gather(slices.Values(in), most)
		for i := range one[:cap(one)] {
			one[:cap(one)][i] = -1
		}
		wantList(t, "another answer", two, upTo(min(most, 5)))
		wantList(t, "what came in", in, upTo(5))
	}
}

// P11.7: what lies within an element comes as it is.
func TestGatherCopiesNothingWithin(t *testing.T) {
	x, y := new(int), new(int)
	got, _ := shelf.Gather(slices.Values([]*int{x, y, x}), 3)
	wantList(t, "pointers", got, []*int{x, y, x})
	l := []int{1}
	lists, _ := shelf.Gather(slices.Values([][]int{l}), 1)
	l[0] = 2
	if lists[0][0] != 2 {
		t.Error("the list within was copied")
	}
}
