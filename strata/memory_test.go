package strata_test

import (
	"slices"
	"sync"
	"testing"

	"latchkey/api"
)

// roomy is a copy of a list with something in the room behind its end.
func roomy[T any](l []T, behind T) []T {
	return append(append(make([]T, 0, len(l)+2), l...), behind, behind)[:len(l)]
}

func whole[T any](l []T) []T { return slices.Clone(l[:cap(l)]) }

func scrawl(l []int) {
	l = l[:cap(l)]
	for i := range l {
		l[i] = -9
	}
}

// given are graphs with arcs that don't rise and stand there twice, and nodes from which is asked; the first has strata, the second a ring.
func given() [][]api.Arc {
	wrong := api.Arc{From: -7, To: 99, Neg: true}
	return [][]api.Arc{
		roomy(drawn("4>3 3!1 1>2 2>1 4>3 0>4 4!2 3!1 5>5 5>5"), wrong),
		roomy(drawn("4>3 3!1 1>2 2>1 4>3 3>4 1!2 3!1 5!5 5!5"), wrong),
		roomy([]api.Arc{}, wrong),
	}
}

// DOC.md, Memory: no list that comes in is written, nor the room behind its end; that room isn't read.
func TestNothingIsWritten(t *testing.T) {
	for _, arcs := range given() {
		from := roomy([]int{5, 3, 3, 1}, 77)
		wantArcs, wantFrom := whole(arcs), whole(from)
		for name, call := range calls() {
			for _, n := range []int{6, 5, 0, -1} {
				call(n, arcs, from)
				if !slices.Equal(whole(arcs), wantArcs) || !slices.Equal(whole(from), wantFrom) {
					t.Fatalf("%s: written: %v, %v", name, whole(arcs), whole(from))
				}
			}
			if _, e := call(6, arcs, from); e != api.OK && e != api.ErrStrata {
				t.Errorf("%s: %d", name, e)
			}
		}
	}
}

// DOC.md, Memory: a list that goes out is the caller's, the room behind it too.
func TestAnswersAreTheCallers(t *testing.T) {
	for _, arcs := range given() {
		from := roomy(upTo(6), 77)
		wantArcs, wantFrom := whole(arcs), whole(from)
		for name, call := range calls() {
			one, e := call(6, arcs, from)
			two, _ := call(6, arcs, from)
			answer := slices.Clone(one)
			scrawl(one)
			three, f := call(6, arcs, from)
			if !slices.Equal(two, answer) || !slices.Equal(three, answer) || e != f {
				t.Errorf("%s: %v, %v, not %v", name, two, three, answer)
			}
			if !slices.Equal(whole(arcs), wantArcs) || !slices.Equal(whole(from), wantFrom) {
				t.Fatalf("%s: what was written into the answer shows in what came in: %v, %v", name, whole(arcs), whole(from))
			}
		}
	}
}

// DOC.md, Memory: what was answered doesn't change with what came in.
func TestAnswersAreKept(t *testing.T) {
	for i := range given() {
		for name, call := range calls() {
			arcs, from := given()[i], upTo(6)
			answer, _ := call(6, arcs, from)
			want := whole(answer)
			scrawl(from)
			for k := range arcs[:cap(arcs)] {
				arcs[:cap(arcs)][k] = api.Arc{From: 1, To: 1}
			}
			if !slices.Equal(whole(answer), want) {
				t.Errorf("%s: was %v, is %v", name, want, whole(answer))
			}
		}
	}
}

// DOC.md, Memory: a list that is nil and one that is empty are the same.
func TestNilAndEmpty(t *testing.T) {
	for _, arcs := range [][]api.Arc{nil, {}} {
		for _, from := range [][]int{nil, {}} {
			for n := range 3 {
				wantReach(t, n, arcs, from, nil)
				wantParts(t, n, arcs, upTo(n))
				wantStrata(t, n, arcs, make([]int, n))
				wantRing(t, n, arcs, nil)
			}
		}
	}
}

// DOC.md, Sameness: the same call answers the same, whatever else runs, and whatever was refused ahead of it.
func TestSideBySide(t *testing.T) {
	n, arcs := anyGraph(seeded(6), 300)
	from := some(seeded(7), n)
	for name, call := range calls() {
		want, e := call(n, arcs, from)
		var all sync.WaitGroup
		for i := range 8 {
			all.Go(func() {
				for k := range 50 {
					call(k*i%7-1, arcs, from)
					if got, f := call(n, arcs, from); f != e || !slices.Equal(got, want) {
						t.Errorf("%s: %v, %d, not %v, %d", name, got, f, want, e)
					}
				}
			})
		}
		all.Wait()
	}
}
