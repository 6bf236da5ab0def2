package conds_test

import (
	"math"
	"slices"
	"strings"
	"testing"

	"latchkey/api"
	"latchkey/conds"
	"latchkey/syntax"
)

func fault(e api.Errno, part int) api.Fault { return api.Fault{Err: e, Part: part, Node: -1} }

// chain is a not over a not ..: as many parts in one another.
func chain(deep int) []api.Part {
	l := value(boolean(true))
	for range deep - 1 {
		l = over(api.PartNo, l)
	}
	return l
}

// broad is an expression of just that many parts (an odd number), no deeper than need be.
func broad(n int) []api.Part {
	if n == 1 {
		return param("b")
	}
	left := (n - 1) / 2
	if left%2 == 0 {
		left++
	}
	return over(api.PartBoth, broad(left), broad(n-1-left))
}

// P7.1: faults of the tree are told as chapter 6 tells them.
func TestCheckTellsTheFaultsOfTheTree(t *testing.T) {
	good := value(boolean(true))
	many := make([]api.Param, api.MaxParams+1)
	for i := range many {
		many[i] = api.Param{Name: numbered(i), Kind: api.ValInt}
	}
	for _, x := range []struct {
		c    api.Cond
		want api.Fault
	}{
		{of(five(), good), api.Fault{}},
		{api.Cond{Name: "", Expr: good}, fault(api.ErrName, -1)},
		{api.Cond{Name: "Or", Expr: good}, fault(api.ErrName, -1)},
		{api.Cond{Name: strings.Repeat("c", api.MaxName), Expr: good}, api.Fault{}},
		{api.Cond{Name: strings.Repeat("c", api.MaxName+1), Expr: good}, fault(api.ErrName, -1)},
		{of(many[:api.MaxParams], good), api.Fault{}},
		{of(many, good), fault(api.ErrLong, -1)},
		{of([]api.Param{{Name: "a", Kind: 1}, {Name: "A", Kind: 1}}, good), fault(api.ErrName, 1)},
		{of([]api.Param{{Name: "a", Kind: 1}, {Name: "d", Kind: 0}}, good), fault(api.ErrTree, 1)},
		{of([]api.Param{{Name: "a", Kind: 6}}, good), fault(api.ErrTree, 0)},
		{of([]api.Param{{Name: "a", Kind: -1}}, good), fault(api.ErrTree, 0)},
		{of(nil, nil), fault(api.ErrTree, 0)},
		{of(five(), nil), fault(api.ErrTree, 5)},
		{of(five(), over(api.PartNo)), fault(api.ErrTree, 6)},
		{of(five(), over(api.PartBoth, good)), fault(api.ErrTree, 7)},
		{of(five(), append(value(boolean(true)), good...)), fault(api.ErrTree, 6)},
		{of(five(), over(0, good)), fault(api.ErrTree, 5)},
		{of(five(), over(api.PartEither+1, good, good)), fault(api.ErrTree, 5)},
		{of(five(), over(math.MinInt, good, good)), fault(api.ErrTree, 5)},
		{of(five(), over(api.PartNo, []api.Part{{Kind: api.PartParam, Name: "b", Value: integer(0)}})), fault(api.ErrTree, 6)},
		{of(five(), []api.Part{{Kind: api.PartValue, Name: "b", Value: boolean(true)}}), fault(api.ErrTree, 5)},
		{of(five(), over(api.PartNo, param("Or"))), fault(api.ErrName, 6)},
		{of(five(), over(api.PartNo, param(""))), fault(api.ErrName, 6)},
		{of(five(), over(api.PartNo, value(api.Value{}))), fault(api.ErrValue, 6)},
		{of(five(), over(api.PartIs, value(text("")), value(text(strings.Repeat("x", api.MaxBytes+1))))), fault(api.ErrValue, 7)},
		{of(five(), chain(api.MaxDeep)), api.Fault{}},
		{of(five(), chain(api.MaxDeep+1)), fault(api.ErrLong, 5+api.MaxDeep)},
		{of(five(), broad(api.MaxParts-1)), api.Fault{}},
		{of(five(), over(api.PartNo, broad(api.MaxParts-1))), api.Fault{}},
		{of(five(), broad(api.MaxParts+1)), fault(api.ErrLong, -1)},
	} {
		if told := syntax.Check(api.Schema{Conds: []api.Cond{x.c}}); told != x.want {
			t.Errorf("syntax.Check(%s) = %+v, want %+v", show(x.c), told, x.want)
		}
		wantFault(t, x.c, x.want)
		wantRefused(t, x.c, nil, x.want.Err, x.want.Err, x.want.Err)
	}
}

// P7.1: whatever chapter 6 refuses a tree for is told as it stands there, whatever else is wrong.
func TestCheckAsksSyntaxFirst(t *testing.T) {
	c := seeded(1)
	faults := map[api.Errno]int{}
	for range 20000 {
		d := of(append(c.params(), c.params()...), c.anyExpr(1+c.Intn(5)))
		broken(c, &d)
		want := syntax.Check(api.Schema{Conds: []api.Cond{d}})
		if want.Err == api.OK {
			continue
		}
		faults[want.Err]++
		wantFault(t, d, want)
	}
	for _, e := range []api.Errno{api.ErrName, api.ErrTree, api.ErrLong, api.ErrValue} {
		if faults[e] < 100 {
			t.Errorf("only %d conditions were refused for %v", faults[e], e)
		}
	}
}

// broken does something to a condition that mostly breaks it.
func broken(c chance, d *api.Cond) {
	k := c.Intn(len(d.Expr))
	switch c.Intn(8) {
	case 0:
		d.Name = pick(c, []string{"", "A", "in", "a b"})
	case 1:
		d.Params = append(d.Params, api.Param{Name: pick(c, []string{"", "q", "not"}), Kind: c.Intn(8) - 1})
	case 2:
		d.Expr = d.Expr[:k]
	case 3:
		d.Expr = append(d.Expr, d.Expr[k:]...)
	case 4:
		d.Expr[k].Kind = c.Intn(20) - 1
	case 5:
		d.Expr[k].Name = pick(c, []string{"", "b", "Z"})
	case 6:
		d.Expr[k].Value = pick(c, []api.Value{{}, {Kind: 9}, boolean(true), {Kind: api.ValInt, Text: "x"}, text(strings.Repeat("x", 300))})
	case 7:
		for range 10 + c.Intn(10) {
			d.Expr = over(api.PartNo, d.Expr)
		}
	}
}

// long is an expression that is read of b alone, and whose text is longer than a source may be.
func long() []api.Part {
	full := make([]string, api.MaxItems)
	for i := range full {
		full[i] = strings.Repeat("\xff", api.MaxBytes)
	}
	return over(api.PartEither, over(api.PartIs, value(list(full...)), value(list(full...))), param("b"))
}

// P7.1: how long a condition's text is isn't asked; what else is wrong with such a one is told.
func TestCheckPassesOverTheText(t *testing.T) {
	unknown := api.Fault{Err: api.ErrLong, What: -1, Part: -1, Node: -1}
	b := api.Param{Name: "b", Kind: api.ValBool}
	for _, x := range []struct {
		c    api.Cond
		want api.Fault
	}{
		{of([]api.Param{b}, long()), api.Fault{}},
		{of([]api.Param{b, b}, long()), fault(api.ErrTwice, 1)},
		{of(nil, long()), fault(api.ErrParam, 4)},
		{of([]api.Param{{Name: "b", Kind: api.ValInt}}, long()), fault(api.ErrKind, 1)},
		{of([]api.Param{b}, long()[2:3]), fault(api.ErrKind, 1)},
	} {
		if told := syntax.Check(api.Schema{Conds: []api.Cond{x.c}}); len(x.c.Expr) > 1 && told != unknown {
			t.Errorf("the text isn't long: %+v", told)
		}
		wantFault(t, x.c, x.want)
		wantRefused(t, x.c, nil, x.want.Err, x.want.Err, x.want.Err)
	}
	c := of([]api.Param{b}, long())
	wantEval(t, c, args(arg("b", boolean(false))), api.Met{Known: true, Met: true})
	wantFold(t, c, nil, of(c.Params, over(api.PartEither, value(boolean(true)), param("b"))))
	if e := conds.Fits(c, args(arg("b", boolean(false)))); e != api.OK {
		t.Error(e)
	}
}

// P7.1: parameters of one name, the least one by number.
func TestCheckTellsNamesTwice(t *testing.T) {
	params := func(names string) []api.Param {
		var l []api.Param
		for i, s := range strings.Fields(names) {
			l = append(l, api.Param{Name: s, Kind: 1 + i%5})
		}
		return l
	}
	for names, want := range map[string]api.Fault{
		"a":                               {},
		"a d e a1 aa":                     {},
		"a a":                             fault(api.ErrTwice, 1),
		"a d a":                           fault(api.ErrTwice, 2),
		"a d d a":                         fault(api.ErrTwice, 2),
		"a d e e d a":                     fault(api.ErrTwice, 3),
		"a a a":                           fault(api.ErrTwice, 1),
		"p o i u y t r e w q l k j h g g": fault(api.ErrTwice, 15),
		"p o i u y t r e w q l k j h g p": fault(api.ErrTwice, 15),
	} {
		wantFault(t, of(params(names), value(boolean(true))), want)
		wantRefused(t, of(params(names), value(boolean(true))), nil, want.Err, want.Err, want.Err)
		// Names twice are told ahead of parts that are wrong, behind trees that are.
		if want.Err != api.OK {
			wantFault(t, of(params(names), param("nobody")), want)
			wantFault(t, of(params(names), over(api.PartNo, value(text("")))), want)
			wantFault(t, of(params(names), nil), fault(api.ErrTree, len(params(names))))
		}
	}
	wantFault(t, of([]api.Param{{Name: "a", Kind: 1}, {Name: "a", Kind: 1}, {Name: "a", Kind: 6}}, value(boolean(true))), fault(api.ErrTree, 2))
}

// P7.1: each part beside each pair of kinds, by values and by parameters.
func TestCheckGoesByTheTable(t *testing.T) {
	all := kindNames()
	leaf := func(kind int, asParam bool) []api.Part {
		if asParam {
			return param(five()[kind-1].Name)
		}
		return value(api.Value{Kind: kind})
	}
	for part := api.PartMinus; part <= api.PartEither; part++ {
		for a := api.ValBool; a <= api.ValTexts; a++ {
			for b := api.ValBool; b <= api.ValTexts; b++ {
				for way := range 4 {
					l := over(part, leaf(a, way&1 > 0), leaf(b, way&2 > 0))
					kind := tableKind(part, all[a], all[b])
					if part <= api.PartNo {
						l, kind = over(part, leaf(a, way&1 > 0)), tableKind(part, all[a])
					}
					wantKind(t, l, kind)
				}
			}
		}
	}
	for k, p := range five() {
		wantKind(t, param(p.Name), all[k+1])
		wantKind(t, value(api.Value{Kind: k + 1}), all[k+1])
	}
}

// wantKind asks for the kind of an expression, none if it is wrong: only beside its like a comparison lets it in, and alone only a bool.
func wantKind(t *testing.T, l []api.Part, kind string) {
	t.Helper()
	want := fault(api.ErrKind, 5)
	if kind == "bool" {
		want = api.Fault{}
	}
	wantFault(t, of(five(), l), want)
	for k, name := range kindNames()[1:] {
		want := fault(api.ErrKind, 5)
		if kind == name || kind == "int" && name == "real" || kind == "real" && name == "int" {
			want = api.Fault{}
		}
		if kind == "" {
			want = fault(api.ErrKind, 6)
		}
		wantFault(t, of(five(), over(api.PartIs, l, value(api.Value{Kind: k + 1}))), want)
	}
	// What is reckoned of a number is a number again, beside whatever number it stands.
	if kind == "int" || kind == "real" {
		product := over(api.PartTimes, l, value(integer(1)))
		wantFault(t, of(five(), over(api.PartIs, product, value(real32(1)))), api.Fault{})
		wantFault(t, of(five(), over(api.PartIn, product, value(list()))), fault(api.ErrKind, 5))
	}
}

// P7.1: of several parts that are wrong the first by number, whatever its reason; what is made of one without a kind isn't wrong itself.
func TestCheckTellsTheFirstWrongPart(t *testing.T) {
	for s, want := range map[string]api.Fault{
		"nobody":                              fault(api.ErrParam, 5),
		"nobody == n":                         fault(api.ErrParam, 6),
		"n == nobody":                         fault(api.ErrParam, 7),
		"n == t":                              fault(api.ErrKind, 5),
		"n == t and nobody":                   fault(api.ErrKind, 6),
		"nobody and n == t":                   fault(api.ErrParam, 6),
		"nobody and nowhere":                  fault(api.ErrParam, 6),
		"n + t == nobody":                     fault(api.ErrKind, 6),
		"nobody == n + t":                     fault(api.ErrParam, 6),
		"not (nobody + 1)":                    fault(api.ErrParam, 7),
		"not (nobody and 1)":                  fault(api.ErrParam, 7),
		"not not not nobody":                  fault(api.ErrParam, 8),
		"-(n == t) + 1 > \"a\"":               fault(api.ErrKind, 8),
		"not -(not n)":                        fault(api.ErrKind, 7),
		"t in t and t in l and n":             fault(api.ErrKind, 7),
		"(not n or not t) and not l":          fault(api.ErrKind, 7),
		"b and (b and (b and (b and not n)))": fault(api.ErrKind, 13),
		"(not t) in (not l)":                  fault(api.ErrKind, 6),
		"1 in nobody":                         fault(api.ErrParam, 7),
		"b and (n and b)":                     fault(api.ErrKind, 7),
		"n + 1":                               fault(api.ErrKind, 5),
		"n and nobody":                        fault(api.ErrParam, 7),
		"-x":                                  fault(api.ErrKind, 5),
		"\"a\"":                               fault(api.ErrKind, 5),
		"[]":                                  fault(api.ErrKind, 5),
		"t in l":                              {},
		"b":                                   {},
		"true":                                {},
	} {
		l, spot := syntax.ParseExpr(s)
		if spot != (api.Spot{}) {
			t.Fatal(s, spot)
		}
		c := of(five(), l)
		wantFault(t, c, want)
		if told := faultOf(c); told != want {
			t.Errorf("%s: the tests' own way says %+v, not %+v", s, told, want)
		}
		wantRefused(t, c, nil, want.Err, want.Err, want.Err)
	}
}

// P7.1: whatever a tree looks like.
func TestCheckOfAnyTree(t *testing.T) {
	c := seeded(2)
	told := map[api.Errno]int{}
	for range 40000 {
		d := of(c.params(), c.anyExpr(1+c.Intn(4)))
		want := faultOf(d)
		told[want.Err]++
		wantFault(t, d, want)
	}
	for range 5000 {
		d := c.cond()
		if want := faultOf(d); want != (api.Fault{}) {
			t.Fatalf("%s: %+v", show(d), want)
		}
		wantFault(t, d, api.Fault{})
		// One part is turned into another of as many, so that most of it fits still.
		d.Expr = slices.Clone(d.Expr)
		k := c.Intn(len(d.Expr))
		switch x := &d.Expr[k]; {
		case x.Kind >= api.PartTimes:
			x.Kind = api.PartTimes + c.Intn(api.PartEither-api.PartTimes+1)
		case x.Kind >= api.PartMinus:
			x.Kind = api.PartMinus + c.Intn(2)
		case x.Kind == api.PartParam:
			x.Name = pick(c, names())
		default:
			x.Value = c.value(1 + c.Intn(5))
		}
		want := faultOf(d)
		told[want.Err]++
		wantFault(t, d, want)
	}
	for _, e := range []api.Errno{api.OK, api.ErrKind, api.ErrParam} {
		if told[e] < 1000 {
			t.Errorf("only %d times %v", told[e], e)
		}
	}
}

// P7.2: the names, rising, each once, whatever else is wrong.
func TestReads(t *testing.T) {
	ask := func(c api.Cond) {
		t.Helper()
		if got, want := conds.Reads(c), readsOf(c.Expr); !slices.Equal(got, want) {
			t.Errorf("Reads(%s) = %q, want %q", show(c), got, want)
		}
	}
	ask(api.Cond{})
	ask(of(five(), nil))
	ask(of(five(), value(boolean(true))))
	ask(of(nil, over(api.PartBoth, over(api.PartBoth, param("z"), param("a")), over(api.PartBoth, param("z"), param("m")))))
	// Names that are none, names of other parts, trees that aren't whole, and more parts than there may be.
	ask(of(nil, []api.Part{{Kind: api.PartParam, Name: "b"}, {Kind: api.PartParam, Name: ""}, {Kind: api.PartParam, Name: "Or"}, {Kind: api.PartParam, Name: "\xff"}, {Kind: api.PartParam, Name: ""}, {Kind: api.PartNo, Name: "e"}, {Kind: api.PartValue, Name: "f"}, {Kind: 99, Name: "g"}}))
	var many []api.Part
	for i := range 5000 {
		many = append(many, api.Part{Kind: api.PartParam, Name: numbered((i * 7919) % 3000)})
	}
	ask(of(nil, many))
	if got := conds.Reads(of(nil, many)); len(got) != 3000 || !slices.IsSorted(got) {
		t.Error(len(got))
	}
	c := seeded(3)
	for range 5000 {
		d := of(c.params(), c.anyExpr(1+c.Intn(5)))
		if c.Intn(2) == 0 {
			broken(c, &d)
		}
		ask(d)
	}
}
