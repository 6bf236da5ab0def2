package check_test

import (
	"strings"
	"testing"
)

// P17.2: a NodeThis lets in by a tuple of the subject itself, of all of its type, or of a set that it has; by none of another type, id, relation or object.
func TestThis(t *testing.T) {
	text := `type user type bot
type team relation member: [user, team#member] relation lead: [user]
type doc relation viewer: [user, user:*, bot, team, team#member, team#lead] relation editor: [user, bot:*]`
	src := snapOf(t, text, "doc:1#viewer@user:ann", "doc:2#viewer@user:*", "doc:3#viewer@team:a#member", "doc:4#viewer@team:a#lead", "doc:5#viewer@team:a", "doc:6#viewer@bot:ann", "doc:1#editor@user:bob", "doc:7#editor@bot:*",
		"team:a#member@user:cat", "team:a#lead@user:dan", "team:b#member@user:eve", "team:a#member@team:b#member")
	for s, want := range map[string]string{
		"user:ann":        "doc:1 viewer,doc:2 viewer",
		"user:bob":        "doc:1 editor,doc:2 viewer",
		"user:cat":        "doc:2 viewer,doc:3 viewer,team:a member",
		"user:dan":        "doc:2 viewer,doc:4 viewer,team:a lead",
		"user:eve":        "doc:2 viewer,doc:3 viewer,team:a member,team:b member",
		"user:zoe":        "doc:2 viewer",
		"bot:ann":         "doc:6 viewer,doc:7 editor",
		"bot:bob":         "doc:7 editor",
		"team:a":          "doc:5 viewer",
		"team:b":          "",
		"doc:1":           "",
		"team:a#member":   "doc:3 viewer,team:a member",
		"team:a#lead":     "doc:4 viewer,team:a lead",
		"team:b#member":   "doc:3 viewer,team:a member,team:b member",
		"team:b#lead":     "team:b lead",
		"doc:1#viewer":    "doc:1 viewer",
		"doc:1#editor":    "doc:1 editor",
		"team:cat#member": "team:cat member",
	} {
		wantOf(t, src, s, nil, split(want)...)
	}
}

// split cuts grants apart that stand with commas between.
func split(s string) []string {
	if s == "" {
		return nil
	}
	return strings.Split(s, ",")
}

// P17.2: a NodeSame lets in whoever has that relation to the same object, of the same type alone.
func TestSame(t *testing.T) {
	src := snapOf(t, `type user
type folder relation owner: [user] relation viewer: [user]
type doc relation owner: [user] relation editor: owner relation viewer: editor relation reader: viewer`,
		"doc:1#owner@user:ann", "folder:1#owner@user:bob", "doc:2#owner@user:bob")
	wantOf(t, src, "user:ann", nil, "doc:1 owner", "doc:1 editor", "doc:1 viewer", "doc:1 reader")
	wantOf(t, src, "user:bob", nil, "doc:2 owner", "doc:2 editor", "doc:2 viewer", "doc:2 reader", "folder:1 owner")
	wantOf(t, src, "doc:9#editor", nil, "doc:9 editor", "doc:9 viewer", "doc:9 reader")
	wantOf(t, src, "folder:1#owner", nil, "folder:1 owner")
	wantOf(t, src, "user:zoe", nil)
}

// P17.2: a NodeFrom lets in whoever has that relation to what a tuple of the way names, if that is of a type that has it.
func TestFrom(t *testing.T) {
	src := snapOf(t, `type user
type disk relation viewer: [user]
type shelf relation reader: [user]
type folder relation parent: [folder, disk] relation viewer: [user] or viewer from parent
type doc relation home: [folder, shelf, disk] relation away: [folder] relation viewer: viewer from home relation reader: reader from home relation far: viewer from away`,
		"folder:a#parent@disk:d", "folder:b#parent@folder:a", "doc:1#home@folder:b", "doc:1#home@shelf:s", "doc:2#home@disk:d", "doc:3#home@shelf:s", "doc:4#away@folder:a", "doc:5#home@folder:s",
		"disk:d#viewer@user:ann", "shelf:s#reader@user:bob", "folder:b#viewer@user:cat", "folder:s#viewer@user:dan")
	wantOf(t, src, "user:ann", nil, "disk:d viewer", "folder:a viewer", "folder:b viewer", "doc:1 viewer", "doc:2 viewer", "doc:4 far")
	wantOf(t, src, "user:bob", nil, "shelf:s reader", "doc:1 reader", "doc:3 reader")
	wantOf(t, src, "user:cat", nil, "folder:b viewer", "doc:1 viewer")
	// A folder of the same id is another object.
	wantOf(t, src, "user:dan", nil, "folder:s viewer", "doc:5 viewer")
	// Whoever is named by a way has the way's relation, and no more than that.
	wantOf(t, src, "folder:a", nil, "folder:b parent", "doc:4 away")
	wantOf(t, src, "disk:d", nil, "folder:a parent", "doc:2 home")
	wantOf(t, src, "shelf:s#reader", nil, "shelf:s reader", "doc:1 reader", "doc:3 reader")
	wantOf(t, src, "disk:d#viewer", nil, "disk:d viewer", "folder:a viewer", "folder:b viewer", "doc:1 viewer", "doc:2 viewer", "doc:4 far")
	wantOf(t, src, "folder:b#parent", nil, "folder:b parent")
}

// P17.2: what a way's tuple names is asked for the other relation, not the way's own object, and the way isn't gone backward.
func TestFromOneWayOnly(t *testing.T) {
	src := snapOf(t, "type user type doc relation up: [doc] relation viewer: [user] or viewer from up relation both: viewer from up", "doc:1#up@doc:2", "doc:2#up@doc:3", "doc:2#viewer@user:ann")
	wantOf(t, src, "user:ann", nil, "doc:1 viewer", "doc:1 both", "doc:2 viewer")
	wantOf(t, src, "doc:2", nil, "doc:1 up")
	wantOf(t, src, "doc:3#viewer", nil, "doc:1 viewer", "doc:2 viewer", "doc:3 viewer", "doc:1 both", "doc:2 both")
}

// P17.2: an or lets in by any of its kids, an and by all of them, a not by its first one, but for whom the second lets in.
func TestKids(t *testing.T) {
	text := "type user type doc relation a: [user] relation b: [user] relation c: [user] relation r: "
	names := []string{"a", "b", "c"}
	for rewrite, is := range map[string]func(a, b, c bool) bool{
		"a or b":                      func(a, b, c bool) bool { return a || b },
		"a or b or c":                 func(a, b, c bool) bool { return a || b || c },
		"a and b":                     func(a, b, c bool) bool { return a && b },
		"a and b and c":               func(a, b, c bool) bool { return a && b && c },
		"a not b":                     func(a, b, c bool) bool { return a && !b },
		"b not a":                     func(a, b, c bool) bool { return b && !a },
		"a or (b and c)":              func(a, b, c bool) bool { return a || b && c },
		"(a or b) and c":              func(a, b, c bool) bool { return (a || b) && c },
		"c and (a or b)":              func(a, b, c bool) bool { return (a || b) && c },
		"(a and b) or c":              func(a, b, c bool) bool { return a && b || c },
		"a not (b or c)":              func(a, b, c bool) bool { return a && !(b || c) },
		"a not (b and c)":             func(a, b, c bool) bool { return a && !(b && c) },
		"(a or b) not c":              func(a, b, c bool) bool { return (a || b) && !c },
		"(a and b) not c":             func(a, b, c bool) bool { return a && b && !c },
		"a not (b not c)":             func(a, b, c bool) bool { return a && !(b && !c) },
		"(a not b) not c":             func(a, b, c bool) bool { return a && !b && !c },
		"(a not b) or (b not c)":      func(a, b, c bool) bool { return a && !b || b && !c },
		"(a not b) and (c not b)":     func(a, b, c bool) bool { return a && c && !b },
		"(a or b or c) not (a and b)": func(a, b, c bool) bool { return (a || b || c) && !(a && b) },
		"((a or b) and (b or c)) not ((a and b) and c)": func(a, b, c bool) bool { return (a || b) && (b || c) && !(a && b && c) },
		"(a not (b not (c not a))) or (c not (a or b))": func(a, b, c bool) bool { return a && !(b && !(c && !a)) || c && !(a || b) },
		"a not a":                   func(a, b, c bool) bool { return false },
		"a or a":                    func(a, b, c bool) bool { return a },
		"a and a":                   func(a, b, c bool) bool { return a },
		"(a not a) or (b and b)":    func(a, b, c bool) bool { return b },
		"c not (a not (a and b))":   func(a, b, c bool) bool { return c && !(a && !(a && b)) },
		"(a and b and c) or a or b": func(a, b, c bool) bool { return a || b },
	} {
		for some := range 8 {
			bits := [3]bool{some&1 > 0, some&2 > 0, some&4 > 0}
			var l, want []string
			for i, name := range names {
				if bits[i] {
					l = append(l, "doc:1#"+name+"@user:ann")
					want = append(want, "doc:1 "+name)
				}
				// What another one has, or the same one elsewhere, says nothing.
				l = append(l, "doc:1#"+name+"@user:bob", "doc:2#"+name+"@user:cat")
			}
			if is(bits[0], bits[1], bits[2]) {
				want = append(want, "doc:1 r")
			}
			wantOf(t, snapOf(t, text+rewrite, l...), "user:ann", nil, want...)
		}
	}
}

// P17.2: leaves of every kind within nodes of every kind, the first and the last one.
func TestLeavesWithin(t *testing.T) {
	text := `type user
type team relation member: [user]
type box relation x: [user]
type doc relation up: [box] relation same: [user] relation r: `
	asks := map[string]string{"same": "doc:1#same@user:ann", "x from up": "box:b#x@user:ann", "[user, user:*, team#member]": "doc:1#r@user:ann"}
	leaves := []string{"same", "x from up", "[user, user:*, team#member]"}
	for _, first := range leaves {
		for _, second := range leaves {
			if first == second {
				continue
			}
			for some := range 4 {
				one, two := some&1 > 0, some&2 > 0
				l := []string{"doc:1#up@box:b"}
				if one {
					l = append(l, asks[first])
				}
				if two {
					l = append(l, asks[second])
				}
				for joint, is := range map[string]bool{" or ": one || two, " and ": one && two, " not ": one && !two} {
					src := snapOf(t, text+first+joint+second, l...)
					if got := has(t, src, subject("user:ann"), nil, grant("doc:1 r")); got != is {
						t.Errorf("%s%s%s with %q: %v", first, joint, second, l, got)
					}
				}
			}
		}
	}
	// By all of a type, and by a set.
	for _, by := range []string{"user:*", "team:t#member"} {
		src := snapOf(t, text+"same and [user, user:*, team#member]", "doc:1#r@"+by, "doc:1#same@user:ann", "team:t#member@user:ann", "doc:2#r@"+by, "doc:3#same@user:ann")
		wantOf(t, src, "user:ann", nil, "doc:1 same", "doc:1 r", "doc:3 same", "team:t member")
		src = snapOf(t, text+"same not [user, user:*, team#member]", "doc:1#r@"+by, "doc:1#same@user:ann", "team:t#member@user:ann", "doc:2#r@"+by, "doc:3#same@user:ann")
		wantOf(t, src, "user:ann", nil, "doc:1 same", "doc:3 same", "doc:3 r", "team:t member")
	}
}

// P17.2: the leaves of an and can come one long after the other, by long ways, in whichever order.
func TestAndComesLate(t *testing.T) {
	text := `type user
type team relation member: [user, team#member]
type doc relation up: [doc] relation p: [user, team#member] or p from up relation q: [team#member] or q from up relation r: p and q and (p from up)`
	src := snapOf(t, text, "team:1#member@user:ann", "team:2#member@team:1#member", "team:3#member@team:2#member", "team:4#member@team:3#member", "doc:1#p@user:ann", "doc:1#q@team:4#member", "doc:2#up@doc:1", "doc:3#up@doc:2")
	wantOf(t, src, "user:ann", nil, "team:1 member", "team:2 member", "team:3 member", "team:4 member", "doc:1 p", "doc:1 q", "doc:2 p", "doc:2 q", "doc:2 r", "doc:3 p", "doc:3 q", "doc:3 r")
}
