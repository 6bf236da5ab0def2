package tuples_test

import (
	"testing"

	"latchkey/api"
	"latchkey/tuples"
)

func filterOf(l []string) api.Filter {
	return api.Filter{Type: l[0], Id: l[1], Rel: l[2], Subject: api.Subject{Type: l[3], Id: l[4], Rel: l[5]}, Cond: l[6]}
}

func wantLets(t *testing.T, f api.Filter, x api.Tuple, want bool) {
	t.Helper()
	if got := tuples.Lets(f, x); got != want {
		t.Errorf("Lets(%+v, %s) = %v", f, show(x), got)
	}
}

// P10.6: each field by itself, all, and none: the tuple's own lets it through, any other text doesn't.
func TestFieldsOfFilters(t *testing.T) {
	own := []string{"d", "1", "r", "u", "a", "m", "c"}
	x := ofFields(own)
	for n := range 128 {
		f := make([]string, 7)
		for i := range f {
			if n>>i&1 == 1 {
				f[i] = own[i]
			}
		}
		wantLets(t, filterOf(f), x, true)
		for i := range f {
			kept := f[i]
			for _, s := range []string{"x", own[i] + own[i], "*", " ", "\x00", "\xff", own[(i+1)%7], own[(i+3)%7], times("n", 1000)} {
				f[i] = s
				wantLets(t, filterOf(f), x, false)
			}
			f[i] = kept
		}
	}
}

// P10.6: what is empty in the tuple isn't let through by what a filter says there; Args have no part.
func TestFiltersOfEmptyFields(t *testing.T) {
	own := []string{"d", "1", "r", "u", "a", "m", "c"}
	for i := range own {
		l := append([]string{}, own...)
		l[i] = ""
		wantLets(t, filterOf(own), ofFields(l), false)
		wantLets(t, filterOf(l), ofFields(l), true)
		wantLets(t, filterOf(l), ofFields(own), true)
	}
	x := under(ofFields(own), numbered(3)...)
	wantLets(t, filterOf(own), x, true)
	wantLets(t, api.Filter{}, x, true)
	wantLets(t, api.Filter{}, api.Tuple{}, true)
}

// P10.6: any texts may stand in a filter; they are asked as they stand.
func TestAnyTextsInFilters(t *testing.T) {
	for _, s := range []string{"*", "A b", "\x00", "or", times("n", 100)} {
		x := ofFields([]string{s, s, s, s, s, s, s})
		wantLets(t, filterOf(fields(x)), x, true)
		wantLets(t, filterOf(fields(x)), fact("d:1#r@u:a"), false)
	}
	all := fact("d:1#r@u:*")
	wantLets(t, api.Filter{Subject: api.Subject{Id: "*"}}, all, true)
	wantLets(t, api.Filter{Subject: api.Subject{Id: "*"}}, fact("d:1#r@u:a"), false)
	wantLets(t, api.Filter{Subject: api.Subject{Id: "a"}}, all, false)
}

// P10.7: a filter that says all fields of a tuple whose Subject is a set lets no other key through; of one's it lets sets of the same object through too; the empty one lets all through.
func TestFiltersFollow(t *testing.T) {
	for _, x := range keys() {
		f := filterOf(fields(x))
		for _, y := range keys() {
			lets := tuples.Lets(f, y)
			isSet := x.Subject.Rel != "" && x.Rel != "" && x.Object.Type != "" && x.Object.Id != "" && x.Subject.Type != "" && x.Subject.Id != ""
			if lets != letsOf(f, y) || isSet && lets && tuples.Compare(x, y) != 0 || !lets && tuples.Compare(x, y) == 0 {
				t.Errorf("%s, %s: %v", show(x), show(y), lets)
			}
			wantLets(t, api.Filter{}, y, true)
		}
	}
	one := filterOf(fields(fact("d:1#r@u:a")))
	wantLets(t, one, fact("d:1#r@u:a#m"), true)
	wantLets(t, one, fact("d:1#r@u:a#n with c"), true)
	wantLets(t, one, fact("d:1#r@u:b#m"), false)
	set := filterOf(fields(fact("d:1#r@u:a#m with c")))
	wantLets(t, set, fact("d:1#r@u:a#m with c{k: 1}"), true)
	wantLets(t, set, fact("d:1#r@u:a#m"), false)
	wantLets(t, set, fact("d:1#r@u:a with c"), false)
}
