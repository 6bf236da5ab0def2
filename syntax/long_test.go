package syntax_test

import (
	"slices"
	"strings"
	"testing"

	"latchkey/api"
	"latchkey/syntax"
)

// P6.2, Limits: each limit of a schema, at it and one past it, as a text.
func TestLimitsOfTexts(t *testing.T) {
	for _, x := range []struct {
		head, each, tail string
		most             int
	}{
		{"", " type a", "", 32},
		{"", " cond a(): b", "", 32},
		{"type a", " relation b: c", "", 32},
		{"cond a(b: int", ", b: int", "): c", 15},
		{"type a relation b: [c", ", c", "]", 15},
		{"type a relation b: c", " or c", "", 62},
		{"type a relation b: c", " and c", "", 62},
		{"cond a(): b", " + b", "", 15},
		{"cond a(): b", " or b", "", 15},
		{"cond a(): ", "not ", "b", 15},
		{"cond a(): ", "-", "b", 15},
		{"cond a(): ", "-", "7", 16},
	} {
		wantSpot(t, x.head+times(x.each, x.most)+x.tail, api.Spot{})
		for _, n := range []int{x.most + 1, x.most + 2, 2000} {
			wantSpot(t, x.head+times(x.each, n)+x.tail, spot(api.ErrLong, 0))
			// A text that can't be read is told ahead of that, wherever it can't.
			s := x.head + times(x.each, n) + x.tail
			wantSpot(t, s+" =", spot(api.ErrSyntax, len(s)+2))
		}
	}
}

// nested is a text with as many heads, a middle, and as many tails.
func nested(head string, n int, middle, tail string) string {
	return times(head, n) + middle + times(tail, n)
}

// P6.4, Limits: nodes and parts in one another, and how many of them, at the limit and one past it.
func TestDeepTexts(t *testing.T) {
	for _, join := range []string{"or", "and", "not"} {
		wantRewriteSpot(t, nested("a "+join+" (", 15, "a", ")"), api.Spot{})
		wantRewriteSpot(t, nested("a "+join+" (", 16, "a", ")"), spot(api.ErrLong, 0))
		wantRewriteSpot(t, nested("(", 15, "a", " "+join+" a)"), api.Spot{})
		wantRewriteSpot(t, nested("(", 16, "a", " "+join+" a)"), spot(api.ErrLong, 0))
	}
	for _, sign := range strings.Fields("+ - * / == != < <= > >= in and or") {
		wantExprSpot(t, nested("a "+sign+" (", 15, "a", ")"), api.Spot{})
		wantExprSpot(t, nested("a "+sign+" (", 16, "a", ")"), spot(api.ErrLong, 0))
		wantExprSpot(t, nested("(", 15, "a", " "+sign+" a)"), api.Spot{})
		wantExprSpot(t, nested("(", 16, "a", " "+sign+" a)"), spot(api.ErrLong, 0))
	}
	wantRewriteSpot(t, "a"+times(" or a", 62), api.Spot{})
	wantRewriteSpot(t, "a"+times(" or a", 63), spot(api.ErrLong, 0))
	wantRewriteSpot(t, "a"+times(" or (a and a)", 20)+" or a or a", api.Spot{})
	wantRewriteSpot(t, "a"+times(" or (a and a)", 21), spot(api.ErrLong, 0))
	wantRewriteSpot(t, "[a"+times(", a", 15)+"]", api.Spot{})
	wantRewriteSpot(t, "[a"+times(", a", 16)+"]", spot(api.ErrLong, 0))

	half, _ := syntax.PrintExpr(wide(63))
	wantExprSpot(t, half+" - ("+half+")", api.Spot{})
	wantExprSpot(t, "-("+half+" - ("+half+"))", api.Spot{})
	wantExprSpot(t, "-("+half+" - -("+half+"))", spot(api.ErrLong, 0))
	wantExprSpot(t, "- -("+half+" - ("+half+"))", spot(api.ErrLong, 0))
}

// P6.2, P6.4: parentheses without need are no nodes, however many there are.
func TestNeedlessParentheses(t *testing.T) {
	wantRewrite(t, nested("(", 30000, "a", ")"), same("a"))
	wantRewrite(t, nested("(", 10000, "[a]", ")")+" not "+nested("(", 10000, "b or c", ")"), not(allows("a"), or(same("b"), same("c"))))
	wantExpr(t, nested("(", 30000, "a", ")"), param("a"))
	wantExpr(t, nested("(", 10000, "-5", ")")+" - "+nested("(", 10000, "b - c", ")"), part(api.PartLess, whole(-5), part(api.PartLess, param("b"), param("c"))))
	if l, spot := syntax.ParseRewrite(nested("(", 32767, "a", ")")); spot != (api.Spot{}) || !sameRewrite(l, same("a")) {
		t.Errorf("%s, %+v", show(l), spot)
	}
	if l, spot := syntax.ParseExpr(nested("(", 32767, "a", ")")); spot != (api.Spot{}) || !sameExpr(l, param("a")) {
		t.Errorf("%s, %+v", show(l), spot)
	}
}

// P6.2, P6.4: texts as long as may be, nested as deep as may be, whose trees are refused: to their end they are read, and what can't stand there is told ahead.
func TestLongNestedTexts(t *testing.T) {
	for _, x := range []struct{ head, middle, tail string }{
		{"a or(", "a", ")"}, {"(", "a", " or a)"}, {"a not(", "a", ")"}, {"(", "[a,b:*]", " and a)"}, {"a or ", "a", ""}, {"(((a or(", "a", "))))"},
	} {
		n := (65536 - len(x.middle)) / len(x.head+x.tail)
		s := nested(x.head, n, x.middle, x.tail)
		wantRewriteSpot(t, s, spot(api.ErrLong, 0))
		s = nested(x.head, n-1, x.middle, x.tail)
		wantRewriteSpot(t, s+")", spot(api.ErrSyntax, len(s)+1))
		wantRewriteSpot(t, s+" a", spot(api.ErrSyntax, len(s)+2))
	}
	for _, x := range []struct{ head, middle, tail string }{
		{"-", "a", ""}, {"not ", "a", ""}, {"-(", "a", ")"}, {"a-(", "a", ")"}, {"a-", "a", ""}, {"a or ", "a", ""}, {"(", "a", "==a)"}, {"(not ", "a", ")"}, {"- -", "5", ""}, {"[]*", `""`, ""},
	} {
		n := (65536 - len(x.middle)) / len(x.head+x.tail)
		s := nested(x.head, n, x.middle, x.tail)
		wantExprSpot(t, s, spot(api.ErrLong, 0))
		s = nested(x.head, n-1, x.middle, x.tail)
		wantExprSpot(t, s+")", spot(api.ErrSyntax, len(s)+1))
		s = nested(x.head, n-30, x.middle, x.tail)
		wantExprSpot(t, s+"+99999999999999999999", spot(api.ErrValue, len(s)+2))
	}
	for _, head := range []string{"(", "-", "((-", "a or ("} {
		s := times(head, 65536/len(head))
		wantExprSpot(t, s, spot(api.ErrSyntax, len(s)+1))
		wantExprSpot(t, s[:len(s)-1]+"]", spot(api.ErrSyntax, len(s)))
	}
	s := times("(", 65536)
	wantRewriteSpot(t, s, spot(api.ErrSyntax, len(s)+1))
	wantRewriteSpot(t, s[1:]+"]", spot(api.ErrSyntax, len(s)))
}

// sized are texts whose list is written with just so many bytes.
func sized(t *testing.T, bytes int) []api.Part {
	t.Helper()
	l := list()
	left := bytes - len("[]")
	for ; left > 258; left -= 260 {
		l[0].Value.Texts = append(l[0].Value.Texts, times("x", 256))
	}
	if left < 2 || len(l[0].Value.Texts) > 31 {
		t.Fatalf("no list has %d bytes", bytes)
	}
	l[0].Value.Texts = append(l[0].Value.Texts, times("x", left-2))
	return l
}

// fullList is how many bytes the longest list has, but for what is escaped in it.
const fullList = 2 + 32*258 + 31*2

// padded is a schema of conditions whose own text has just so many bytes.
func padded(t *testing.T, bytes int) api.Schema {
	t.Helper()
	const around = len("cond c(): \n")
	var s api.Schema
	for ; bytes > fullList+around; bytes -= fullList + around {
		s.Conds = append(s.Conds, api.Cond{Name: "c", Expr: sized(t, fullList)})
	}
	s.Conds = append(s.Conds, api.Cond{Name: "c", Expr: sized(t, bytes-around)})
	return s
}

// P6.1, P6.3, Limits: a schema's own text at its bound, and one byte past it.
func TestBoundOfOwnText(t *testing.T) {
	for _, size := range []int{65535, 65536} {
		s := padded(t, size)
		text, e := syntax.Print(s)
		back, spot := syntax.Parse(text)
		if e != api.OK || len(text) != size || spot != (api.Spot{}) || !syntax.Same(back, s) {
			t.Errorf("%d: %v, %d bytes, %+v", size, e, len(text), spot)
		}
		wantFault(t, s, api.Fault{})
	}
	all := api.Fault{Err: api.ErrLong, What: -1, Part: -1, Node: -1}
	wantFault(t, padded(t, 65537), all)
	wantFault(t, padded(t, 100000), all)
	// Longer by one byte at its beginning, in its midst, by an escape at its end.
	s := padded(t, 65536-len("type a\n"))
	s.Types = []api.Type{{Name: "a"}}
	wantFault(t, s, api.Fault{})
	s.Types[0].Name = "ab"
	wantFault(t, s, all)
	s = padded(t, 65536)
	s.Conds[3].Name = "cc"
	wantFault(t, s, all)
	s = padded(t, 65536)
	last := s.Conds[len(s.Conds)-1].Expr[0].Value.Texts
	last[len(last)-1] = strings.Replace(last[len(last)-1], "x", `"`, 1)
	wantFault(t, s, all)
}

// P6.2: a text that isn't too long, whose own text is at its bound, or past it.
func TestOwnTextOfReadText(t *testing.T) {
	s := padded(t, 65536)
	own, _ := syntax.Print(s)
	bare := strings.NewReplacer(", ", ",", ": ", ":", "\n", " ").Replace(own)
	if got, spot := syntax.Parse(bare); spot != (api.Spot{}) || !syntax.Same(got, s) {
		t.Errorf("%+v", spot)
	}
	wantSpot(t, strings.Replace(bare, "cond c()", "cond cd()", 1), spot(api.ErrLong, 0))
	wantSpot(t, strings.Replace(bare, "x", "\x80", 1), spot(api.ErrLong, 0))
	long := strings.Replace(bare, "x", "\x80", 1)
	wantSpot(t, long+"=", spot(api.ErrSyntax, len(long)+1))

	// Bytes that are written out fourfold.
	items := strings.TrimSuffix(times(`"`+times("\xff", 200)+`",`, 32), ",")
	wantExprSpot(t, "["+items+"]+["+items+"]", api.Spot{})
	wide := "[" + items + "]" + times("+["+items+"]", 5)
	wantExprSpot(t, wide, spot(api.ErrLong, 0))
	wantSpot(t, "cond c():"+wide, spot(api.ErrLong, 0))
	wantExprSpot(t, wide+")", spot(api.ErrSyntax, len(wide)+1))
}

// allowance is written with that many bytes: 72 to 103.
func allowance(bytes int) api.Allow {
	a := api.Allow{Type: times("t", 32), Rel: times("r", 32)}
	a.Cond = times("c", bytes-len(a.Type+"#"+a.Rel+" with "))
	return a
}

// unit is written with all its allowances but one at their longest.
func unit(allowances, last int) []api.Node {
	n := this()
	for range allowances - 1 {
		n[0].Allow = append(n[0].Allow, allowance(103))
	}
	n[0].Allow = append(n[0].Allow, allowance(last))
	return n
}

// P6.4, Limits: a rewrite's own text at its bound, and one byte past it.
func TestBoundOfRewrite(t *testing.T) {
	var most [][]api.Node
	for range 38 {
		most = append(most, unit(16, 103))
	}
	// 38 units of 1680 bytes and 14 allowances of 103 more, with what stands between them, leave 72.
	at, past := or(join(most, [][]api.Node{unit(15, 72)})...), or(join(most, [][]api.Node{unit(15, 73)})...)
	text, e := syntax.PrintRewrite(at)
	if len(text) != 65536 || e != api.OK {
		t.Fatalf("%d bytes, %v", len(text), e)
	}
	if text, e := syntax.PrintRewrite(past); text != "" || e != api.ErrLong {
		t.Errorf("%d bytes, %v", len(text), e)
	}
	bare := strings.ReplaceAll(text, ", ", ",")
	for _, s := range []string{text, bare} {
		if back, spot := syntax.ParseRewrite(s); spot != (api.Spot{}) || !sameRewrite(back, at) {
			t.Errorf("%+v", spot)
		}
	}
	wantRewriteSpot(t, strings.Replace(bare, "with c]", "with cc]", 1), spot(api.ErrLong, 0))
	wantRewriteSpot(t, bare+" or a", spot(api.ErrLong, 0))
	wantRewriteSpot(t, bare+" or", spot(api.ErrSyntax, len(bare+" or")+1))
	// Whole, in a schema, both are too long.
	wantFault(t, relation(at), api.Fault{Err: api.ErrLong, What: -1, Part: -1, Node: -1})
	wantFault(t, relation(past), api.Fault{Err: api.ErrLong, What: -1, Part: -1, Node: -1})
}

// P6.4, Limits: an expression's own text at its bound, and one byte past it.
func TestBoundOfExpr(t *testing.T) {
	sum := func(bytes int) []api.Part {
		l := sized(t, fullList)
		for range 6 {
			l = part(api.PartPlus, l, sized(t, fullList))
		}
		return part(api.PartPlus, l, sized(t, bytes-7*(fullList+len(" + "))))
	}
	at, past := sum(65536), sum(65537)
	text, e := syntax.PrintExpr(at)
	if len(text) != 65536 || e != api.OK {
		t.Fatalf("%d bytes, %v", len(text), e)
	}
	if text, e := syntax.PrintExpr(past); text != "" || e != api.ErrLong {
		t.Errorf("%d bytes, %v", len(text), e)
	}
	bare := strings.ReplaceAll(text, " ", "")
	for _, s := range []string{text, bare} {
		if back, spot := syntax.ParseExpr(s); spot != (api.Spot{}) || !sameExpr(back, at) {
			t.Errorf("%+v", spot)
		}
	}
	wantExprSpot(t, strings.Replace(bare, "x", `\n`, 1), spot(api.ErrLong, 0))
	wantExprSpot(t, "-("+bare+")", spot(api.ErrLong, 0))
	wantExprSpot(t, "("+bare+")", api.Spot{})
	wantFault(t, cond(at), api.Fault{Err: api.ErrLong, What: -1, Part: -1, Node: -1})
}

// P6.1: trees whose own text would have many millions of bytes are refused, and soon.
func TestGreatTrees(t *testing.T) {
	var s api.Schema
	for range 32 {
		typed := api.Type{Name: "t"}
		for range 32 {
			typed.Relations = append(typed.Relations, api.Relation{Name: "r", Rewrite: or(slices.Repeat([][]api.Node{unit(16, 103)}, 63)...)})
		}
		s.Types = append(s.Types, typed)
		s.Conds = append(s.Conds, api.Cond{Name: "c", Expr: lists(64, times("\xff", 256))})
	}
	wantFault(t, s, api.Fault{Err: api.ErrLong, What: -1, Part: -1, Node: -1})
	s.Conds[31].Expr[0].Name = "a"
	wantFault(t, s, api.Fault{Err: api.ErrTree, What: 63, Part: 0, Node: -1})
}
