package strata_test

import (
	"slices"

	"latchkey/api"
)

// leads answers which node leads to which, by the chapter's words: over each node in between, in turn.
func leads(n int, arcs []api.Arc) [][]bool {
	m := make([][]bool, n)
	for i := range m {
		m[i] = make([]bool, n)
	}
	for _, a := range arcs {
		m[a.From][a.To] = true
	}
	for k := range n {
		for i := range n {
			if !m[i][k] {
				continue
			}
			for j := range n {
				m[i][j] = m[i][j] || m[k][j]
			}
		}
	}
	return m
}

// together says whether two nodes are in one part.
func together(m [][]bool, i, j int) bool { return i == j || m[i][j] && m[j][i] }

// partsOf gives numbers again and again: a part whose least node comes first, and all of whose arcs lead to itself or to parts that have one.
func partsOf(n int, arcs []api.Arc) []int {
	m := leads(n, arcs)
	part := slices.Repeat([]int{-1}, n)
	canCome := func(k int) bool {
		for i := range n {
			if !together(m, i, k) && m[k][i] && part[i] < 0 {
				return false
			}
		}
		return part[k] < 0
	}
	for next := 0; ; next++ {
		k := 0
		for k < n && !canCome(k) {
			k++
		}
		if k == n {
			return part
		}
		for i := range n {
			if together(m, i, k) {
				part[i] = next
			}
		}
	}
}

// areStrata says whether these numbers are strata.
func areStrata(arcs []api.Arc, level []int) bool {
	for _, a := range arcs {
		if level[a.To] > level[a.From] || a.Neg && level[a.To] == level[a.From] {
			return false
		}
	}
	return true
}

// strataOf raises each node as far as an arc asks, until none asks; false, if one has come to where no chain of parts leads.
func strataOf(n int, arcs []api.Arc) ([]int, bool) {
	level := make([]int, n)
	for again := true; again; {
		again = false
		for _, a := range arcs {
			want := level[a.To]
			if a.Neg {
				want++
			}
			if level[a.From] < want {
				level[a.From], again = want, true
			}
			if want > n {
				return nil, false
			}
		}
	}
	return level, true
}

// leastStrata looks at every row of numbers below n: the least number of each node in any strata; false, if there are none.
func leastStrata(n int, arcs []api.Arc) ([]int, bool) {
	least := slices.Repeat([]int{n}, n)
	level := make([]int, n)
	var try func(k int)
	try = func(k int) {
		if k < n {
			for level[k] = range n {
				try(k + 1)
			}
			return
		}
		if areStrata(arcs, level) {
			for i, x := range level {
				least[i] = min(least[i], x)
			}
		}
	}
	try(0)
	return least, n == 0 || least[0] < n
}

// reachOf answers what is reached from some.
func reachOf(n int, arcs []api.Arc, from []int) []int {
	m := leads(n, arcs)
	var out []int
	for k := range n {
		if slices.ContainsFunc(from, func(f int) bool { return f == k || m[f][k] }) {
			out = append(out, k)
		}
	}
	return out
}

// ringOf answers the nodes of the least part within which a Neg arc leads.
func ringOf(n int, arcs []api.Arc) []int {
	part := partsOf(n, arcs)
	bad := n
	for _, a := range arcs {
		if a.Neg && part[a.From] == part[a.To] {
			bad = min(bad, part[a.From])
		}
	}
	var out []int
	for k, p := range part {
		if p == bad {
			out = append(out, k)
		}
	}
	return out
}
