package shelf_test

import (
	"fmt"
	"iter"
	"math/rand"
	"slices"
	"strconv"
	"strings"
	"testing"

	"latchkey/shelf"
)

// pair is an element as in the chapter's examples: a number, by which alone it is compared, and a letter.
type pair struct {
	n int
	c byte
}

func (p pair) String() string {
	return strconv.Itoa(p.n) + string(p.c)
}

func byNumber(a, b pair) int {
	return a.n - b.n
}

// of reads pairs as the chapter writes them: 2d 5c.
func of(s string) []pair {
	var l []pair
	for _, w := range strings.Fields(s) {
		n, e := strconv.Atoi(w[:len(w)-1])
		if e != nil {
			panic(w)
		}
		l = append(l, pair{n, w[len(w)-1]})
	}
	return l
}

func one(s string) pair {
	return of(s)[0]
}

// seq is a sequence of pairs as the chapter writes them.
func seq(s string) iter.Seq[pair] {
	return slices.Values(of(s))
}

// made is a Shelf to which pairs were added one behind the other.
func made(s string) *shelf.Shelf[pair] {
	f := shelf.New(byNumber)
	for _, x := range of(s) {
		f.Add(x)
	}
	return f
}

// upTo are the numbers from 0 on, below n.
func upTo(n int) []int {
	l := make([]int, n)
	for i := range l {
		l[i] = i
	}
	return l
}

func seeded(n int64) *rand.Rand {
	return rand.New(rand.NewSource(n))
}

func wantList[T comparable](t *testing.T, name string, got, want []T) {
	t.Helper()
	if !slices.Equal(got, want) {
		t.Errorf("%s: %s, want %s", name, brief(got), brief(want))
	}
}

// brief tells a list, of a long one the beginning alone.
func brief[T any](l []T) string {
	if len(l) > 40 {
		return fmt.Sprintf("%v .. (%d)", l[:40], len(l))
	}
	return fmt.Sprint(l)
}

// wantSeq goes through a sequence and holds it against pairs.
func wantSeq(t *testing.T, name string, got iter.Seq[pair], want string) {
	t.Helper()
	wantList(t, name, slices.Collect(got), of(want))
}

func wantBool(t *testing.T, name string, got, want bool) {
	t.Helper()
	if got != want {
		t.Errorf("%s: %v, want %v", name, got, want)
	}
}

// wantPair asks for a pair and true; for the zero one and false, where want is empty.
func wantPair(t *testing.T, name string, got pair, ok bool, want string) {
	t.Helper()
	if want == "" && (ok || got != pair{}) || want != "" && (!ok || got != one(want)) {
		t.Errorf("%s: %v, %v, want %q", name, got, ok, want)
	}
}

// watched is a sequence that tells how often it was begun, how many rounds through it are under way, and how many elements it has handed over. It has no lock: who goes through it must not do so beside what asks it.
type watched[T any] struct {
	of                  iter.Seq[T]
	begun, under, given int
}

func watch[T any](s iter.Seq[T]) *watched[T] {
	return &watched[T]{of: s}
}

func (w *watched[T]) seq(yield func(T) bool) {
	w.begun++
	w.under++
	defer func() { w.under-- }()
	for x := range w.of {
		w.given++
		if !yield(x) {
			return
		}
	}
}

// endless tells the multiples of k from 0 on, without end.
func endless(k int) iter.Seq[int] {
	return func(yield func(int) bool) {
		for n := 0; yield(n); n += k {
		}
	}
}

// first are the first n elements of a sequence.
func first[T any](s iter.Seq[T], n int) []T {
	var l []T
	if n == 0 {
		return l
	}
	for x := range s {
		l = append(l, x)
		if len(l) == n {
			break
		}
	}
	return l
}

// caught is what a call panics with, or nil.
func caught(call func()) (fault any) {
	defer func() { fault = recover() }()
	call()
	return nil
}
