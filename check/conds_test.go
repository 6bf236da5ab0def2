package check_test

import (
	"fmt"
	"strings"
	"testing"

	"latchkey/api"
)

// officeText has a condition wherever one can stand.
const officeText = `type user
type team
  relation member: [user with office, team#member with office]
type folder
  relation viewer: [user, user:* with office, team#member with office]
type doc
  relation home: [folder with office, folder]
  relation banned: [user with office, user:* with office]
  relation viewer: viewer from home
  relation reader: viewer not banned
cond office(at: int, on: text): at >= 9 and on == "mon"`

// P17.2: a tuple counts if its condition is met by its own arguments, and behind them by the question's.
func TestCounts(t *testing.T) {
	const at10, at8, mon, tue = "at: 10", "at: 8", `on: "mon"`, `on: "tue"`
	for _, x := range []struct {
		own, ctx string
		want     bool
	}{
		{at10 + ", " + mon, "", true},
		{at10 + ", " + tue, "", false},
		{"", at10 + ", " + mon, true},
		{"", at8 + ", " + mon, false},
		{at10, mon, true},
		{at10, tue, false},
		{mon, at10, true},
		{mon, at8, false},
		// The tuple's own go ahead, for it and against it.
		{at10, at8 + ", " + mon, true},
		{at8, at10 + ", " + mon, false},
		{at10 + ", " + mon, at8 + ", " + tue, true},
		{tue, at10 + ", " + mon, false},
		// Some are missing, or of another kind.
		{"", "", false},
		{"", at10, false},
		{"", mon, false},
		{at10, "", false},
		{at10, "at: 10", false},
		{mon, "at: 10.0", false},
		{mon, `at: "10"`, false},
		{at10, "on: [\"mon\"]", false},
		// Others say nothing.
		{"", at10 + ", by: 1, " + mon, true},
		{"", "a: true, " + at10 + ", " + mon + ", z: nan", true},
		{at10, "by: 1, on_: 2", false},
	} {
		cond := " with office"
		if x.own != "" {
			cond += "{" + x.own + "}"
		}
		src := snapOf(t, officeText, "team:a#member@user:ann"+cond)
		var ctx []api.Arg
		if x.ctx != "" {
			ctx = with(x.ctx)
		}
		var want []string
		if x.want {
			want = []string{"team:a member"}
		}
		wantOf(t, src, "user:ann", ctx, want...)
		wantOf(t, src, "team:a#member", ctx, "team:a member")
	}
}

// P17.2: each kind of tuple may name a condition: of one, of all, of a set, of a way, and of what is taken away.
func TestCondsEverywhere(t *testing.T) {
	late, early := with(`at: 10, on: "mon"`), with(`at: 8, on: "mon"`)
	src := snapOf(t, officeText, "team:a#member@user:ann with office{at: 9}", "team:b#member@team:a#member with office", "folder:f#viewer@team:b#member with office", "folder:g#viewer@user:* with office", "doc:1#home@folder:f with office", "doc:2#home@folder:g", "doc:3#home@folder:h with office", "folder:h#viewer@user:ann")
	wantOf(t, src, "user:ann", late, "team:a member", "team:b member", "folder:f viewer", "folder:g viewer", "folder:h viewer", "doc:1 viewer", "doc:1 reader", "doc:2 viewer", "doc:2 reader", "doc:3 viewer", "doc:3 reader")
	wantOf(t, src, "user:ann", early, "team:a member", "folder:h viewer")
	wantOf(t, src, "user:ann", nil, "folder:h viewer")
	wantOf(t, src, "user:bob", late, "folder:g viewer", "doc:2 viewer", "doc:2 reader")
	wantOf(t, src, "user:bob", early)
	wantOf(t, src, "folder:f", late, "doc:1 home")
	wantOf(t, src, "folder:f", early)
	wantOf(t, src, "folder:g", early, "doc:2 home")
	wantOf(t, src, "team:a#member", early, "team:a member")
	wantOf(t, src, "team:a#member", late, "team:a member", "team:b member", "folder:f viewer", "doc:1 viewer", "doc:1 reader")
	// What is taken away under a condition is taken away only where that is met; where it isn't known it stays.
	for ban, by := range map[string]string{"user:ann": "doc:2#banned@user:ann with office", "user:*": "doc:2#banned@user:* with office"} {
		up := laid(t, snapOf(t, officeText, "doc:2#home@folder:g", "folder:g#viewer@user:ann"), facts(by), nil)
		wantOf(t, up, "user:ann", late, "folder:g viewer", "doc:2 viewer", "doc:2 banned")
		for _, ctx := range [][]api.Arg{early, nil, with("at: 10"), with(`on: "mon"`)} {
			wantOf(t, up, "user:ann", ctx, "folder:g viewer", "doc:2 viewer", "doc:2 reader")
		}
		wantOf(t, up, "user:bob", nil)
		if ban == "user:*" {
			wantOf(t, up, "user:bob", late, "doc:2 banned")
		}
	}
}

// P17.2: what has no value isn't met: beside what lacks, an int that is too great or a division by 0.
func TestNotKnown(t *testing.T) {
	text := "type user type doc relation a: [user with c, user with d, user with e] relation b: [user] relation r: b not a cond c(n: int): 10 / n > 1 cond d(n: int): n * 4611686018427387904 < 0 or true cond e(x: real): x == x"
	for _, x := range []struct {
		cond, args string
		want       bool
	}{
		{"c", "n: 2", true}, {"c", "n: 0", false}, {"c", "n: 20", false}, {"c", "", false},
		{"d", "n: 1", true}, {"d", "n: 2", false}, {"d", "", false},
		{"e", "x: 1.0", true}, {"e", "x: nan", false}, {"e", "x: inf", true},
	} {
		src := snapOf(t, text, "doc:1#b@user:ann", "doc:1#a@user:ann with "+x.cond)
		want := []string{"doc:1 b", "doc:1 r"}
		if x.want {
			want = []string{"doc:1 b", "doc:1 a"}
		}
		var ctx []api.Arg
		if x.args != "" {
			ctx = with(x.args)
		}
		wantOf(t, src, "user:ann", ctx, want...)
		if x.args != "" {
			up := laid(t, src, facts("doc:1#a@user:ann with "+x.cond+"{"+x.args+"}"), nil)
			wantOf(t, up, "user:ann", nil, want...)
		}
	}
}

// P17.2: conditions that read nothing, and values of every kind.
func TestCondsOfEveryKind(t *testing.T) {
	text := `type user type doc relation r: [user with yes, user with no, user with all]
cond yes(): true
cond no(): not true
cond all(b: bool, i: int, l: texts, r: real, t: text): b and i == 1 and t in l and r > 0.5`
	src := snapOf(t, text, "doc:1#r@user:ann with yes", "doc:2#r@user:ann with no", "doc:3#r@user:ann with all", `doc:4#r@user:ann with all{l: ["y"]}`, `doc:5#r@user:ann with all{b: false}`)
	wantOf(t, src, "user:ann", nil, "doc:1 r")
	wantOf(t, src, "user:ann", with(`b: true, i: 1, l: ["x", "y"], r: 0.75, t: "y"`), "doc:1 r", "doc:3 r", "doc:4 r")
	wantOf(t, src, "user:ann", with(`b: true, i: 1, l: ["x", "y"], r: 0.75, t: "x"`), "doc:1 r", "doc:3 r")
	wantOf(t, src, "user:ann", with(`b: true, i: 1, l: ["x", "y"], r: nan, t: "x"`), "doc:1 r")
}

// P17.2: a tuple and a question may have as many arguments as there may be, both at one time.
func TestMostArguments(t *testing.T) {
	var params, sum, own, rest, ctx []string
	for i := range api.MaxArgs {
		name := fmt.Sprintf("p%02d", i)
		params = append(params, name+": int")
		sum = append(sum, name)
		if i%2 == 0 {
			own = append(own, name+": 1")
		} else {
			rest = append(rest, name+": 1")
		}
		ctx = append(ctx, fmt.Sprintf("q%02d: 5", i))
	}
	text := fmt.Sprintf("type user type doc relation r: [user with c] cond c(%s): %s == 8 and %s == 8", strings.Join(params, ", "), strings.Join(sum[:8], " + "), strings.Join(sum[8:], " + "))
	all := strings.ReplaceAll(strings.Join(params, ", "), "int", "1")
	// All are the tuple's own, and the question has as many others.
	src := snapOf(t, text, "doc:1#r@user:ann with c{"+all+"}", "doc:2#r@user:ann with c{"+strings.Join(own, ", ")+"}")
	wantOf(t, src, "user:ann", with(strings.Join(ctx, ", ")), "doc:1 r")
	wantOf(t, src, "user:ann", with(strings.Join(rest, ", ")), "doc:1 r", "doc:2 r")
	wantOf(t, src, "user:ann", with(all), "doc:1 r", "doc:2 r")
	wantOf(t, src, "user:ann", with(strings.ReplaceAll(all, "p15: 1", "p15: 2")), "doc:1 r")
}
