package schema_test

import (
	"fmt"
	"math/rand"
	"slices"
	"strconv"
	"strings"
	"testing"

	"latchkey/api"
	"latchkey/schema"
	"latchkey/syntax"
)

// show tells a schema by its text, where it has one.
func show(s api.Schema) string {
	text, e := syntax.Print(s)
	if e != api.OK {
		text = fmt.Sprintf("%+v", s)
	}
	if len(text) > 1500 {
		text = text[:1500] + ".."
	}
	return text
}

func read(t *testing.T, text string) api.Schema {
	t.Helper()
	s, spot := syntax.Parse(text)
	if spot.Err != api.OK {
		t.Fatalf("%s: %+v", text, spot)
	}
	return s
}

// taken is the model of a schema that has no fault.
func taken(t *testing.T, s api.Schema) *schema.Model {
	t.Helper()
	m, f := schema.Of(s)
	if m == nil || f != (api.Fault{}) {
		t.Fatalf("Of(%s): %v, %+v", show(s), m, f)
	}
	return m
}

func model(t *testing.T, text string) *schema.Model {
	t.Helper()
	return taken(t, read(t, text))
}

func fault(e api.Errno, what, part, node int) api.Fault {
	return api.Fault{Err: e, What: what, Part: part, Node: node}
}

// wantFault asks for a fault, and that there is no model beside one.
func wantFault(t *testing.T, s api.Schema, want api.Fault) {
	t.Helper()
	m, got := schema.Of(s)
	if got != want || (m == nil) != (want.Err != api.OK) {
		t.Errorf("Of(%s): %+v, want %+v; a model: %v", show(s), got, want, m != nil)
	}
}

func wantFaultOf(t *testing.T, text string, want api.Fault) {
	t.Helper()
	wantFault(t, read(t, text), want)
}

// arcs reads arcs as chapter 8 writes them: 0>1, and 0!1 of a Neg one.
func arcs(s string) []api.Arc {
	var l []api.Arc
	for _, w := range strings.Fields(s) {
		i := strings.IndexAny(w, ">!")
		from, e := strconv.Atoi(w[:i])
		to, f := strconv.Atoi(w[i+1:])
		if e != nil || f != nil {
			panic(w)
		}
		l = append(l, api.Arc{From: from, To: to, Neg: w[i] == '!'})
	}
	return l
}

// numbers reads numbers with blanks between them.
func numbers(s string) []int {
	var l []int
	for _, w := range strings.Fields(s) {
		n, e := strconv.Atoi(w)
		if e != nil {
			panic(w)
		}
		l = append(l, n)
	}
	return l
}

func wantArcs(t *testing.T, m *schema.Model, want []api.Arc) {
	t.Helper()
	if got := m.Arcs(); !slices.Equal(got, want) {
		t.Errorf("%s: arcs %v, want %v", show(m.Schema()), got, want)
	}
}

// levels are the strata of all places.
func levels(m *schema.Model) []int {
	var l []int
	for n := range m.Places() {
		l = append(l, m.Stratum(n))
	}
	return l
}

func wantLevels(t *testing.T, m *schema.Model, want []int) {
	t.Helper()
	if got := levels(m); !slices.Equal(got, want) {
		t.Errorf("%s: strata %v, want %v", show(m.Schema()), got, want)
	}
	for _, n := range []int{-1, len(want)} {
		if got := m.Stratum(n); got != -1 {
			t.Errorf("%s: Stratum(%d) = %d", show(m.Schema()), n, got)
		}
	}
}

// wantGraph asks for the arcs and the strata of a text.
func wantGraph(t *testing.T, text, arcsText, levelsText string) {
	t.Helper()
	m := model(t, text)
	wantArcs(t, m, arcs(arcsText))
	wantLevels(t, m, numbers(levelsText))
}

// sameRewrite and sameCond hold what comes out against what came in, whatever is nil or empty.

func sameRewrite(a, b []api.Node) bool {
	of := func(l []api.Node) api.Schema {
		return api.Schema{Types: []api.Type{{Relations: []api.Relation{{Rewrite: l}}}}}
	}
	return syntax.Same(of(a), of(b))
}

func sameCond(a, b api.Cond) bool {
	return syntax.Same(api.Schema{Conds: []api.Cond{a}}, api.Schema{Conds: []api.Cond{b}})
}

func seeded(n int64) *rand.Rand { return rand.New(rand.NewSource(n)) }
