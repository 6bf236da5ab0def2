package routes_test

import (
	"slices"
	"testing"

	"latchkey/api"
	"latchkey/routes"
)

// wantThose asks Into and Out for those of l, which are just these.
func wantThose(t *testing.T, l []api.Edge, p string, into, out []api.Edge) {
	t.Helper()
	if got := routes.Into(l, place(p)); !slices.Equal(got, into) {
		t.Errorf("Into(%s): %q, want %q", p, edgeTexts(got), edgeTexts(into))
	}
	if got := routes.Out(l, place(p)); !slices.Equal(got, out) {
		t.Errorf("Out(%s): %q, want %q", p, edgeTexts(got), edgeTexts(out))
	}
}

// P19.2: in the list's order, which needn't rise, and as often as they stand there.
func TestListsAsTheyStand(t *testing.T) {
	l := edgesIn("d.r: same d.p", "c.r: from d.p way w", "d.r: direct user exact", "b.q: set d.r", "d.r: same d.p", "d.r: same d.p exact", "c.r: from d.p way w", "d.r: set d.r", "b.q: set d.r")
	pick := func(at ...int) []api.Edge {
		var these []api.Edge
		for _, i := range at {
			these = append(these, l[i])
		}
		return these
	}
	wantThose(t, l, "d.r", pick(0, 2, 4, 5, 7), pick(3, 7, 8))
	wantThose(t, l, "d.p", nil, pick(0, 1, 4, 5, 6))
	wantThose(t, l, "c.r", pick(1, 6), nil)
	wantThose(t, l, "user", nil, pick(2))
	wantThose(t, l, "b.q", pick(3, 8), nil)
	// Where the type or the relation alone is the same.
	for _, p := range []string{"d", "d.q", "c.p", "b.r", "user.r", "", ".r", ".p", "D.r", "d.r "} {
		wantThose(t, l, p, nil, nil)
	}
}

// P19.2: edges that no model has, and places that are none; also with an empty Rel, an empty Type, and nothing at all.
func TestListsOfNoModel(t *testing.T) {
	nothing, odd := api.Edge{}, api.Edge{Kind: -7, To: api.Place{Type: "no name", Rel: "\xff\x00"}, From: api.Place{Rel: "x"}, Way: ":", All: true}
	bare := api.Edge{Kind: api.EdgeDirect, To: place("d"), From: place("d"), Exact: true}
	l := []api.Edge{odd, nothing, bare, nothing, odd}
	wantThose(t, l, "", []api.Edge{nothing, nothing}, []api.Edge{nothing, nothing})
	wantThose(t, l, "d", []api.Edge{bare}, []api.Edge{bare})
	wantThose(t, l, ".x", nil, []api.Edge{odd, odd})
	wantThose(t, l, "no name.\xff\x00", []api.Edge{odd, odd}, nil)
	wantThose(t, l, "no name.\xff", nil, nil)
	for _, none := range [][]api.Edge{nil, {}, l[:0]} {
		wantThose(t, none, "", nil, nil)
		wantThose(t, none, "d.r", nil, nil)
	}
}

// P19.2: any lists and any places.
func TestRandomLists(t *testing.T) {
	texts := []string{"", "a", "b", "ab"}
	found := 0
	for n := range int64(300) {
		r := seeded(n)
		drawn := func() api.Place { return api.Place{Type: texts[r.Intn(4)], Rel: texts[r.Intn(4)]} }
		var l []api.Edge
		for range r.Intn(30) {
			l = append(l, api.Edge{Kind: r.Intn(6), To: drawn(), From: drawn(), Way: texts[r.Intn(4)], All: r.Intn(2) > 0, Exact: r.Intn(2) > 0})
		}
		for range 10 {
			p := drawn()
			var into, out []api.Edge
			for _, e := range l {
				if e.To.Type == p.Type && e.To.Rel == p.Rel {
					into = append(into, e)
				}
				if e.From.Type == p.Type && e.From.Rel == p.Rel {
					out = append(out, e)
				}
			}
			found += len(into) + len(out)
			if got := routes.Into(l, p); !slices.Equal(got, into) {
				t.Fatalf("Into(%q, %q): %q", edgeTexts(l), p, edgeTexts(got))
			}
			if got := routes.Out(l, p); !slices.Equal(got, out) {
				t.Fatalf("Out(%q, %q): %q", edgeTexts(l), p, edgeTexts(got))
			}
		}
	}
	if found < 3000 {
		t.Error(found)
	}
}
