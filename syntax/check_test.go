package syntax_test

import (
	"math"
	"strconv"
	"testing"

	"latchkey/api"
)

// noNames are texts that are no names, and not empty.
func noNames() []string {
	return []string{"A", "9", "_", "a b", "a:", "type", "or", "inf", "é", "\x00", times("a", 33), times("a", 1<<17)}
}

func one(l []api.Node) api.Node { return l[0] }

// P6.1: what each kind of node may have, and what it may not.
func TestNodes(t *testing.T) {
	for _, l := range [][]api.Node{
		same("a"), same(times("a", 32)), from("a", "b"), from("a", "a"), allows("a"), allows("a:*"), allows("a#b"), allows("a?with?c"), allows("a:*?with?c"), allows("a#b?with?c"), allows("a a"),
		or(same("a"), same("b")), and(same("a"), same("a"), same("a")), not(same("a"), allows("a")),
	} {
		wantRewriteFault(t, l, api.OK, 0)
	}
	for _, n := range []api.Node{
		{Kind: api.NodeThis},
		{Kind: api.NodeThis, Allow: []api.Allow{}},
		{Kind: api.NodeThis, Allow: one(allows("a")).Allow, Rel: "a"},
		{Kind: api.NodeThis, Allow: one(allows("a")).Allow, From: "a"},
		{Kind: api.NodeThis, Allow: one(allows("a")).Allow, Kids: 1},
		{Kind: api.NodeThis, Allow: one(allows("a")).Allow, Kids: -1},
		{Kind: api.NodeSame, Rel: "a", From: "a"},
		{Kind: api.NodeSame, Rel: "a", Allow: one(allows("a")).Allow},
		{Kind: api.NodeSame, Rel: "a", Kids: 1},
		{Kind: api.NodeSame, Rel: "a", Kids: -1},
		{Kind: api.NodeFrom, Rel: "a", From: "a", Allow: one(allows("a")).Allow},
		{Kind: api.NodeFrom, Rel: "a", From: "a", Kids: 2},
		{Kind: api.NodeFrom, Rel: "a", From: "a", Kids: math.MinInt},
	} {
		wantRewriteFault(t, []api.Node{n}, api.ErrTree, 0)
		wantRewriteFault(t, or(same("a"), []api.Node{n}), api.ErrTree, 2)
	}
	for _, kind := range []int{api.NodeOr, api.NodeAnd, api.NodeNot} {
		for _, n := range []api.Node{
			{Kind: kind}, {Kind: kind, Kids: 1}, {Kind: kind, Kids: -1}, {Kind: kind, Kids: -2}, {Kind: kind, Kids: math.MinInt},
			{Kind: kind, Kids: 2, Rel: "a"}, {Kind: kind, Kids: 2, From: "a"}, {Kind: kind, Kids: 2, Allow: one(allows("a")).Allow},
		} {
			wantRewriteFault(t, join([]api.Node{n}, same("a"), same("b")), api.ErrTree, 0)
		}
		wantRewriteFault(t, join([]api.Node{{Kind: kind, Kids: 2, Allow: []api.Allow{}}}, same("a"), same("b")), api.OK, 0)
	}
	wantRewriteFault(t, node(api.NodeNot, same("a"), same("b"), same("c")), api.ErrTree, 0)
}

// P6.1: kinds that are none.
func TestStrangeKinds(t *testing.T) {
	for _, kind := range []int{0, -1, 7, 256 + api.NodeSame, 1<<32 + api.NodeSame, math.MinInt, math.MaxInt} {
		wantRewriteFault(t, []api.Node{{Kind: kind, Rel: "a"}}, api.ErrTree, 0)
		wantRewriteFault(t, or(same("a"), []api.Node{{Kind: kind}}), api.ErrTree, 2)
	}
	for _, kind := range []int{0, -1, 18, 256 + api.PartParam, 1<<32 + api.PartParam, math.MinInt, math.MaxInt} {
		wantExprFault(t, []api.Part{{Kind: kind, Name: "a"}}, api.ErrTree, 0)
		wantExprFault(t, part(api.PartPlus, param("a"), []api.Part{{Kind: kind}}), api.ErrTree, 2)
		s := cond(param("a"))
		s.Conds[0].Params = []api.Param{{Name: "a", Kind: api.ValBool}, {Name: "b", Kind: kind}}
		if kind < api.ValBool || kind > api.ValTexts {
			wantFault(t, s, api.Fault{Err: api.ErrTree, Part: 1, Node: -1})
		}
	}
	for kind := -1; kind <= 7; kind++ {
		s := cond(truth())
		s.Conds[0].Params = []api.Param{{Name: "a", Kind: kind}}
		want := api.Fault{Err: api.ErrTree, Node: -1}
		if kind >= api.ValBool && kind <= api.ValTexts {
			want = api.Fault{}
		}
		wantFault(t, s, want)
	}
}

// P6.1: names, each where it belongs, and which of What, Part and Node are told.
func TestNames(t *testing.T) {
	for _, bad := range append(noNames(), "") {
		wantRewriteFault(t, or(same("a"), same(bad)), api.ErrName, 2)
		wantRewriteFault(t, from(bad, "a"), api.ErrName, 0)
		wantRewriteFault(t, from("a", bad), api.ErrName, 0)
		wantRewriteFault(t, or(same("a"), this(allow("a"), api.Allow{Type: bad})), api.ErrName, 2)
		wantExprFault(t, part(api.PartPlus, whole(1), param(bad)), api.ErrName, 2)
		good := officeSchema()
		good.Types[1].Name = bad
		wantFault(t, good, api.Fault{Err: api.ErrName, What: 1, Part: -1, Node: -1})
		good = officeSchema()
		good.Types[1].Relations[1].Name = bad
		wantFault(t, good, api.Fault{Err: api.ErrName, What: 1, Part: 1, Node: -1})
		good = officeSchema()
		good.Conds[0].Name = bad
		wantFault(t, good, api.Fault{Err: api.ErrName, What: 2, Part: -1, Node: -1})
		good = officeSchema()
		good.Conds[0].Params[0].Name = bad
		wantFault(t, good, api.Fault{Err: api.ErrName, What: 2, Part: 0, Node: -1})
	}
	for _, bad := range noNames() {
		wantRewriteFault(t, this(allow("a"), api.Allow{Type: "a", Rel: bad}), api.ErrName, 0)
		wantRewriteFault(t, this(allow("a"), api.Allow{Type: "a", Cond: bad}), api.ErrName, 0)
		wantRewriteFault(t, this(api.Allow{Type: "a", Rel: bad, All: true}), api.ErrTree, 0)
	}
	wantRewriteFault(t, this(api.Allow{Type: "a", Rel: "b", All: true}), api.ErrTree, 0)
	// Whether a name means anything isn't asked here, nor whether it stands twice.
	s := officeSchema()
	s.Types, s.Conds = append(s.Types, s.Types...), append(s.Conds, s.Conds...)
	wantFault(t, s, api.Fault{})
}

// P6.1: trees that are whole too early, or not at their end; Kids of any size.
func TestShapes(t *testing.T) {
	a := same("a")
	wantRewriteFault(t, join(or(a, a), a), api.ErrTree, 3)
	wantRewriteFault(t, join(or(or(a, a), a), or(a, a)), api.ErrTree, 5)
	wantRewriteFault(t, join(allows("a"), allows("a")), api.ErrTree, 1)
	wantRewriteFault(t, or(a, a, a)[:3], api.ErrTree, 3)
	wantRewriteFault(t, or(a, or(a, a))[:4], api.ErrTree, 4)
	wantRewriteFault(t, or(or(a, a), a)[:4], api.ErrTree, 4)
	wantRewriteFault(t, not(a, a)[:1], api.ErrTree, 1)
	for _, kids := range []int{3, 64, 65, math.MaxInt32, math.MaxInt} {
		big := []api.Node{{Kind: api.NodeOr, Kids: kids}}
		wantRewriteFault(t, join(big, a, a), api.ErrTree, 3)
		wantRewriteFault(t, join(big, big, big, a, a), api.ErrTree, 5)
	}
	x := param("x")
	wantExprFault(t, nil, api.ErrTree, 0)
	wantExprFault(t, join(x, x), api.ErrTree, 1)
	wantExprFault(t, join(minus(x), x), api.ErrTree, 2)
	wantExprFault(t, join(part(api.PartIn, x, x), x), api.ErrTree, 3)
	wantExprFault(t, part(api.PartIn, x), api.ErrTree, 2)
	wantExprFault(t, minus(nil), api.ErrTree, 1)
	wantExprFault(t, part(api.PartNo), api.ErrTree, 1)
	for kind := api.PartTimes; kind <= api.PartEither; kind++ {
		wantExprFault(t, part(kind, x, x), api.OK, 0)
		wantExprFault(t, part(kind, x), api.ErrTree, 2)
		wantExprFault(t, part(kind, x, x, x), api.ErrTree, 3)
	}
	for _, kind := range []int{api.PartMinus, api.PartNo} {
		wantExprFault(t, part(kind, x), api.OK, 0)
		wantExprFault(t, part(kind), api.ErrTree, 1)
		wantExprFault(t, part(kind, x, x), api.ErrTree, 2)
	}
}

// noValues are values where none belongs, of which one field isn't empty.
func noValues() []api.Value {
	return []api.Value{
		{Kind: api.ValBool}, {Kind: api.ValInt}, {Kind: -1}, {Kind: 6}, {Bool: true}, {Int: 1}, {Int: math.MinInt64}, {Int: 1 << 32}, {Real: 1}, {Real: math.SmallestNonzeroFloat32}, {Real: nan()}, {Real: inf()}, {Text: "x"}, {Text: "\x00"}, {Texts: []string{""}}, {Texts: make([]string, 33)},
	}
}

// P6.1: what parts may have, and what not.
func TestParts(t *testing.T) {
	x := param("x")
	for _, v := range []api.Value{{}, {Real: low()}, {Texts: []string{}}} {
		wantExprFault(t, []api.Part{{Kind: api.PartParam, Name: "x", Value: v}}, api.OK, 0)
		wantExprFault(t, join([]api.Part{{Kind: api.PartNo, Value: v}}, x), api.OK, 0)
	}
	for _, v := range noValues() {
		wantExprFault(t, []api.Part{{Kind: api.PartParam, Name: "x", Value: v}}, api.ErrTree, 0)
		for kind := api.PartMinus; kind <= api.PartEither; kind++ {
			wantExprFault(t, join(minus(nil), []api.Part{{Kind: kind, Value: v}}, x, x), api.ErrTree, 1)
		}
	}
	for kind := api.PartValue; kind <= api.PartEither; kind++ {
		if kind != api.PartParam {
			wantExprFault(t, []api.Part{{Kind: kind, Name: "x"}}, api.ErrTree, 0)
			wantExprFault(t, []api.Part{{Kind: kind, Name: "Or"}}, api.ErrTree, 0)
		}
	}
	for _, v := range []api.Value{{}, {Kind: 6}, {Kind: -1}, {Kind: api.ValInt, Text: "x"}, {Kind: api.ValBool, Real: nan()}, {Kind: api.ValText, Text: times("x", 257)}, {Kind: api.ValTexts, Texts: make([]string, 33)}, {Kind: api.ValTexts, Texts: []string{times("x", 257)}}} {
		wantExprFault(t, part(api.PartIs, x, value(v)), api.ErrValue, 2)
	}
	for _, l := range [][]api.Part{truth(), whole(math.MinInt64), whole(math.MaxInt64), real32(nan()), real32(-inf()), real32(low()), text(times("\xff", 256)), list(make([]string, 32)...), value(api.Value{Kind: api.ValBool, Real: low()})} {
		wantExprFault(t, l, api.OK, 0)
	}
}

// full is a tree of a depth with as few nodes as may be.
func full(depth int) []api.Node {
	l := same("a")
	for range depth - 1 {
		l = not(same("a"), l)
	}
	return l
}

// wide is an expression of as many parts, an odd number, that is as shallow as may be.
func wide(n int) []api.Part {
	if n == 1 {
		return param("x")
	}
	left := (n - 1) / 2
	left -= 1 - left%2
	return part(api.PartPlus, wide(left), wide(n-1-left))
}

// P6.1, Limits: each at it and one past it.
func TestLimits(t *testing.T) {
	wantRewriteFault(t, or(named(63, same)...), api.OK, 0)
	wantRewriteFault(t, or(named(64, same)...), api.ErrLong, -1)
	wantRewriteFault(t, make([]api.Node, 65), api.ErrLong, -1)
	wantRewriteFault(t, make([]api.Node, 64), api.ErrTree, 0)
	wantRewriteFault(t, make([]api.Node, 1<<16), api.ErrLong, -1)
	wantRewriteFault(t, full(16), api.OK, 0)
	wantRewriteFault(t, full(17), api.ErrLong, 31)
	wantRewriteFault(t, or(full(15), full(16)), api.ErrLong, 59)
	wantRewriteFault(t, or(full(15), full(15)), api.OK, 0)
	wantRewriteFault(t, this(named(16, allow)...), api.OK, 0)
	wantRewriteFault(t, or(same("a"), this(named(17, allow)...)), api.ErrLong, 2)

	wantExprFault(t, minus(wide(127)), api.OK, 0)
	wantExprFault(t, wide(129), api.ErrLong, -1)
	wantExprFault(t, make([]api.Part, 129), api.ErrLong, -1)
	wantExprFault(t, make([]api.Part, 128), api.ErrTree, 0)
	deep := param("x")
	for depth := 2; depth <= 18; depth++ {
		deep = minus(deep)
		if depth <= 16 {
			wantExprFault(t, deep, api.OK, 0)
		} else {
			wantExprFault(t, deep, api.ErrLong, 16)
		}
	}
	wantExprFault(t, part(api.PartPlus, deep[3:], deep[2:]), api.ErrLong, 31)
	wantExprFault(t, part(api.PartPlus, deep[3:], deep[3:]), api.OK, 0)
}

// P6.1, Limits: those of the whole, at them and one past them.
func TestLimitsOfTheWhole(t *testing.T) {
	typed := func(name string) api.Type { return api.Type{Name: name} }
	related := func(name string) api.Relation { return api.Relation{Name: name, Rewrite: same("a")} }
	asked := func(name string) api.Cond { return api.Cond{Name: name, Expr: truth()} }
	taken := func(name string) api.Param { return api.Param{Name: name, Kind: api.ValTexts} }
	all := api.Fault{Err: api.ErrLong, What: -1, Part: -1, Node: -1}
	wantFault(t, api.Schema{Types: named(32, typed), Conds: named(32, asked)}, api.Fault{})
	wantFault(t, api.Schema{Types: named(33, typed)}, all)
	wantFault(t, api.Schema{Conds: named(33, asked)}, all)
	wantFault(t, api.Schema{Types: make([]api.Type, 1), Conds: make([]api.Cond, 33)}, all)
	wantFault(t, api.Schema{Types: make([]api.Type, 32), Conds: make([]api.Cond, 32)}, api.Fault{Err: api.ErrName, Part: -1, Node: -1})
	s := api.Schema{Types: named(3, typed), Conds: named(3, asked)}
	s.Types[2].Relations = named(32, related)
	s.Conds[1].Params = named(16, taken)
	wantFault(t, s, api.Fault{})
	s.Conds[1].Params = named(17, taken)
	wantFault(t, s, api.Fault{Err: api.ErrLong, What: 4, Part: -1, Node: -1})
	s.Conds[1].Params = make([]api.Param, 17)
	wantFault(t, s, api.Fault{Err: api.ErrLong, What: 4, Part: -1, Node: -1})
	s.Types[2].Relations = named(33, related)
	wantFault(t, s, api.Fault{Err: api.ErrLong, What: 2, Part: -1, Node: -1})
	s.Types[2].Relations = make([]api.Relation, 33)
	wantFault(t, s, api.Fault{Err: api.ErrLong, What: 2, Part: -1, Node: -1})
}

// P6.1: of several faults the first one is told: each of a row of schemas is refused ahead of all that come behind it, in one schema with them.
func TestFirstFaultOfTheWhole(t *testing.T) {
	rows := []struct {
		spoil func(s *api.Schema)
		want  api.Fault
	}{
		{func(s *api.Schema) { s.Conds = append(s.Conds, make([]api.Cond, 33)...) }, api.Fault{Err: api.ErrLong, What: -1, Part: -1, Node: -1}},
		{func(s *api.Schema) { s.Types[0].Name = "" }, api.Fault{Err: api.ErrName, What: 0, Part: -1, Node: -1}},
		{func(s *api.Schema) { s.Types[0].Relations = make([]api.Relation, 33) }, api.Fault{Err: api.ErrLong, What: 0, Part: -1, Node: -1}},
		{func(s *api.Schema) { s.Types[1].Name = "A" }, api.Fault{Err: api.ErrName, What: 1, Part: -1, Node: -1}},
		{func(s *api.Schema) { s.Types[1].Relations[0].Name = "A" }, api.Fault{Err: api.ErrName, What: 1, Part: 0, Node: -1}},
		{func(s *api.Schema) { s.Types[1].Relations[0].Rewrite = make([]api.Node, 65) }, api.Fault{Err: api.ErrLong, What: 1, Part: 0, Node: -1}},
		{func(s *api.Schema) { s.Types[1].Relations[1].Name = "A" }, api.Fault{Err: api.ErrName, What: 1, Part: 1, Node: -1}},
		{func(s *api.Schema) { s.Types[1].Relations[1].Rewrite = or(same("a"), same("A")) }, api.Fault{Err: api.ErrName, What: 1, Part: 1, Node: 2}},
		{func(s *api.Schema) { s.Conds[0].Name = "or" }, api.Fault{Err: api.ErrName, What: 2, Part: -1, Node: -1}},
		{func(s *api.Schema) { s.Conds[1].Name = "or" }, api.Fault{Err: api.ErrName, What: 3, Part: -1, Node: -1}},
		{func(s *api.Schema) { s.Conds[1].Params[0].Name = "" }, api.Fault{Err: api.ErrName, What: 3, Part: 0, Node: -1}},
		{func(s *api.Schema) { s.Conds[1].Params[0].Kind = 0 }, api.Fault{Err: api.ErrTree, What: 3, Part: 0, Node: -1}},
		{func(s *api.Schema) { s.Conds[1].Params[1].Name = "" }, api.Fault{Err: api.ErrName, What: 3, Part: 1, Node: -1}},
		{func(s *api.Schema) { s.Conds[1].Expr = minus(param("")) }, api.Fault{Err: api.ErrName, What: 3, Part: 3, Node: -1}},
		{func(s *api.Schema) { s.Conds[2].Expr = make([]api.Part, 129) }, api.Fault{Err: api.ErrLong, What: 4, Part: -1, Node: -1}},
		{func(s *api.Schema) { s.Conds[3].Expr = lists(64, times("\xff", 256)) }, api.Fault{Err: api.ErrLong, What: -1, Part: -1, Node: -1}},
	}
	for first := range rows {
		s := officeSchema()
		for i := range 3 {
			s.Conds = append(s.Conds, api.Cond{Name: "c" + strconv.Itoa(i), Params: []api.Param{{Name: "a", Kind: 1}, {Name: "b", Kind: 2}}, Expr: truth()})
		}
		for i := len(rows) - 1; i >= first; i-- {
			rows[i].spoil(&s)
		}
		wantFault(t, s, rows[first].want)
	}
}

// lists are as many lists of 32 texts, in one expression.
func lists(n int, item string) []api.Part {
	texts := make([]string, 32)
	for i := range texts {
		texts[i] = item
	}
	l := list(texts...)
	for n > 1 {
		l = part(api.PartPlus, l, l)
		n /= 2
	}
	return l
}

// P6.1: of several faults of a rewrite the first one is told, of one node and of several.
func TestFirstFaultOfARewrite(t *testing.T) {
	a := same("a")
	wrong := api.Node{Kind: api.NodeSame, Rel: "A", From: "B", Kids: 3}
	strange := api.Node{Kind: 9, Rel: "A", Kids: 3}
	deep := func(n api.Node) []api.Node { return join(full(16)[:30], []api.Node{{Kind: api.NodeNot, Kids: 2}, n}) }
	// What stands behind a whole tree isn't looked at; a strange kind goes ahead of the depth, the depth ahead of the fields, these ahead of names.
	wantRewriteFault(t, join(a, []api.Node{strange}), api.ErrTree, 1)
	wantRewriteFault(t, deep(strange), api.ErrTree, 31)
	wantRewriteFault(t, deep(wrong), api.ErrLong, 31)
	wantRewriteFault(t, deep(same("A")[0]), api.ErrLong, 31)
	wantRewriteFault(t, deep(this(named(17, allow)...)[0]), api.ErrLong, 31)
	wantRewriteFault(t, []api.Node{wrong}, api.ErrTree, 0)
	wantRewriteFault(t, []api.Node{{Kind: api.NodeFrom, Rel: "A", Kids: 2}}, api.ErrTree, 0)
	wantRewriteFault(t, []api.Node{{Kind: api.NodeThis, Rel: "a", Allow: make([]api.Allow, 17)}}, api.ErrTree, 0)
	// How many there are goes ahead of what they are, allowance by allowance, All and a Rel ahead of names.
	wantRewriteFault(t, this(make([]api.Allow, 17)...), api.ErrLong, 0)
	wantRewriteFault(t, this(make([]api.Allow, 16)...), api.ErrName, 0)
	both := api.Allow{Type: "A", Rel: "B", All: true, Cond: "C"}
	wantRewriteFault(t, this(both, allow("a")), api.ErrTree, 0)
	wantRewriteFault(t, this(allow("A"), both), api.ErrName, 0)
	wantRewriteFault(t, this(allow("a#B"), both), api.ErrName, 0)
	wantRewriteFault(t, this(allow("a"), both, allow("A")), api.ErrTree, 0)
	// Node by node: what is wrong with one goes ahead of all that is wrong with the next, and the end is last.
	wantRewriteFault(t, or(a, same("A"), []api.Node{strange}), api.ErrName, 2)
	wantRewriteFault(t, or(a, []api.Node{strange}, same("A")), api.ErrTree, 2)
	wantRewriteFault(t, or(a, same("A"), a)[:3], api.ErrName, 2)
	wantRewriteFault(t, or(a, a, same("A"))[:3], api.ErrTree, 3)
	wantRewriteFault(t, join([]api.Node{{Kind: api.NodeOr, Kids: 1}}, a, a), api.ErrTree, 0)
	wantRewriteFault(t, join(a, full(17)), api.ErrTree, 1)
}

// P6.1: of several faults of an expression the first one is told, of one part and of several.
func TestFirstFaultOfAnExpression(t *testing.T) {
	x := param("x")
	bad := api.Value{Kind: 6}
	strange := []api.Part{{Kind: 18, Name: "A", Value: bad}}
	ahead := make([]api.Part, 16)
	for i := range ahead {
		ahead[i].Kind = api.PartNo
	}
	wantExprFault(t, join(x, strange), api.ErrTree, 1)
	wantExprFault(t, join(ahead, strange), api.ErrTree, 16)
	wantExprFault(t, join(ahead, []api.Part{{Kind: api.PartParam, Name: "A", Value: bad}}), api.ErrLong, 16)
	wantExprFault(t, join(ahead, param("A")), api.ErrLong, 16)
	wantExprFault(t, join(ahead, value(bad)), api.ErrLong, 16)
	wantExprFault(t, join(ahead[:15], param("A")), api.ErrName, 15)
	wantExprFault(t, []api.Part{{Kind: api.PartParam, Name: "A", Value: bad}}, api.ErrTree, 0)
	wantExprFault(t, []api.Part{{Kind: api.PartValue, Name: "A", Value: bad}}, api.ErrTree, 0)
	wantExprFault(t, part(api.PartIs, value(bad), param("A")), api.ErrValue, 1)
	wantExprFault(t, part(api.PartIs, param("A"), value(bad)), api.ErrName, 1)
	wantExprFault(t, part(api.PartIs, param("A")), api.ErrName, 1)
	wantExprFault(t, part(api.PartIs, x), api.ErrTree, 2)
	wantExprFault(t, join(part(api.PartIs, x, x), ahead, x), api.ErrTree, 3)
	wantExprFault(t, make([]api.Part, 129), api.ErrLong, -1)
}
