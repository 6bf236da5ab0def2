package strata_test

import (
	"fmt"
	"math/rand"
	"slices"
	"strconv"
	"strings"
	"testing"

	"latchkey/api"
	"latchkey/strata"
)

// drawn reads arcs as the chapter writes them: 0>1, and 0!1 of a Neg one.
func drawn(s string) []api.Arc {
	var arcs []api.Arc
	for _, w := range strings.FieldsFunc(s, func(r rune) bool { return r == ' ' || r == ',' }) {
		i := strings.IndexAny(w, ">!")
		from, e := strconv.Atoi(w[:i])
		to, f := strconv.Atoi(w[i+1:])
		if e != nil || f != nil {
			panic(w)
		}
		arcs = append(arcs, api.Arc{From: from, To: to, Neg: w[i] == '!'})
	}
	return arcs
}

// show tells a graph; of a great one its size alone.
func show(n int, arcs []api.Arc) string {
	if len(arcs) > 50 {
		return fmt.Sprintf("n = %d, %d arcs", n, len(arcs))
	}
	s := fmt.Sprintf("n = %d, arcs", n)
	for _, a := range arcs {
		mark := ">"
		if a.Neg {
			mark = "!"
		}
		s += fmt.Sprintf(" %d%s%d", a.From, mark, a.To)
	}
	return s
}

// want holds an answer of a graph against the one that is asked for.
func want(t *testing.T, name string, n int, arcs []api.Arc, got []int, e api.Errno, list []int, err api.Errno) {
	t.Helper()
	if e != err || !slices.Equal(got, list) {
		if len(got)+len(list) > 100 {
			got, list = got[:min(20, len(got))], list[:min(20, len(list))]
		}
		t.Errorf("%s of %s = %v, %d; want %v, %d", name, show(n, arcs), got, e, list, err)
	}
}

func wantParts(t *testing.T, n int, arcs []api.Arc, list []int) {
	t.Helper()
	got, e := strata.Parts(n, arcs)
	want(t, "Parts", n, arcs, got, e, list, api.OK)
}

// wantStrata asks for strata; for ErrStrata, where they are nil.
func wantStrata(t *testing.T, n int, arcs []api.Arc, list []int) {
	t.Helper()
	err := api.OK
	if list == nil {
		err = api.ErrStrata
	}
	got, e := strata.Strata(n, arcs)
	want(t, "Strata", n, arcs, got, e, list, err)
}

func wantRing(t *testing.T, n int, arcs []api.Arc, list []int) {
	t.Helper()
	got, e := strata.Ring(n, arcs)
	want(t, "Ring", n, arcs, got, e, list, api.OK)
}

func wantReach(t *testing.T, n int, arcs []api.Arc, from, list []int) {
	t.Helper()
	got, e := strata.Reach(n, arcs, from)
	if e != api.OK || !slices.Equal(got, list) {
		t.Errorf("from %v:", from)
	}
	want(t, "Reach", n, arcs, got, e, list, api.OK)
}

// wantErr asks for an error of all four calls, and for nothing beside it; api.OK: for none but ErrStrata.
func wantErr(t *testing.T, n int, arcs []api.Arc, from []int, err api.Errno) {
	t.Helper()
	for name, call := range calls() {
		got, e := call(n, arcs, from)
		if err == api.OK {
			if e != api.OK && e != api.ErrStrata {
				t.Errorf("%s of %s: %d", name, show(n, arcs), e)
			}
			continue
		}
		want(t, name, n, arcs, got, e, nil, err)
	}
}

// calls are the four calls, with from for the one that asks for it.
func calls() map[string]func(n int, arcs []api.Arc, from []int) ([]int, api.Errno) {
	return map[string]func(n int, arcs []api.Arc, from []int) ([]int, api.Errno){
		"Parts":  func(n int, arcs []api.Arc, _ []int) ([]int, api.Errno) { return strata.Parts(n, arcs) },
		"Strata": func(n int, arcs []api.Arc, _ []int) ([]int, api.Errno) { return strata.Strata(n, arcs) },
		"Reach":  strata.Reach,
		"Ring":   func(n int, arcs []api.Arc, _ []int) ([]int, api.Errno) { return strata.Ring(n, arcs) },
	}
}

// upTo are the numbers from 0 on, below n.
func upTo(n int) []int {
	l := make([]int, n)
	for i := range l {
		l[i] = i
	}
	return l
}

// chain leads from each node to the next one.
func chain(n int, neg bool) []api.Arc {
	var arcs []api.Arc
	for k := range max(n-1, 0) {
		arcs = append(arcs, api.Arc{From: k, To: k + 1, Neg: neg})
	}
	return arcs
}

// anyGraph is a graph of up to most nodes; of some few arcs, of many, with Neg ones seldom or often, or all down the numbers but for a few.
func anyGraph(c *rand.Rand, most int) (int, []api.Arc) {
	n := 1 + c.Intn(most)
	seldom := 1 + c.Intn(8)
	down := c.Intn(2) == 0
	arcs := make([]api.Arc, c.Intn(1+n*(1+c.Intn(3))))
	for i := range arcs {
		a := api.Arc{From: c.Intn(n), To: c.Intn(n), Neg: c.Intn(seldom) == 0}
		if down && a.From < a.To && c.Intn(10) != 0 {
			a.From, a.To = a.To, a.From
		}
		if down && a.From <= a.To && c.Intn(4) != 0 {
			a.Neg = false
		}
		arcs[i] = a
		if i > 0 && c.Intn(6) == 0 {
			arcs[i] = arcs[c.Intn(i)]
		}
	}
	return n, arcs
}

// some are nodes, some of them twice, perhaps none.
func some(c *rand.Rand, n int) []int {
	l := make([]int, c.Intn(4))
	for i := range l {
		l[i] = c.Intn(n)
	}
	if len(l) > 1 && c.Intn(3) == 0 {
		l[0] = l[len(l)-1]
	}
	return l
}

func seeded(seed int64) *rand.Rand { return rand.New(rand.NewSource(seed)) }
