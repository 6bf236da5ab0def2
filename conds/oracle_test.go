package conds_test

import (
	"math/big"
	"slices"
	"sort"
	"strings"

	"latchkey/api"
)

// tree is an expression as the tests see it: a part, its number, and those of which it is made.
type tree struct {
	api.Part
	k    int
	kids []*tree
}

// grown is the tree that begins at k, and where the next one begins.
func grown(l []api.Part, k int) (*tree, int) {
	t := &tree{Part: l[k], k: k}
	count := 2
	switch l[k].Kind {
	case api.PartValue, api.PartParam:
		count = 0
	case api.PartMinus, api.PartNo:
		count = 1
	}
	k++
	for range count {
		var kid *tree
		kid, k = grown(l, k)
		t.kids = append(t.kids, kid)
	}
	return t, k
}

func kindNames() []string { return []string{"", "bool", "int", "real", "text", "texts"} }

func parts(from, to int) []int {
	var l []int
	for k := from; k <= to; k++ {
		l = append(l, k)
	}
	return l
}

// chapterTable is the chapter's, line by line: which parts, what they are made of, and their kind.
func chapterTable() []struct {
	parts []int
	of    string
	kind  string
} {
	return []struct {
		parts []int
		of    string
		kind  string
	}{
		{parts(api.PartMinus, api.PartMinus), "int", "int"},
		{parts(api.PartMinus, api.PartMinus), "real", "real"},
		{parts(api.PartNo, api.PartNo), "bool", "bool"},
		{parts(api.PartTimes, api.PartLess), "int int", "int"},
		{parts(api.PartTimes, api.PartLess), "int real, real int, real real", "real"},
		{parts(api.PartIs, api.PartAtLeast), "bool bool, int int, real real, text text, texts texts, int real, real int", "bool"},
		{parts(api.PartIn, api.PartIn), "text texts", "bool"},
		{parts(api.PartBoth, api.PartEither), "bool bool", "bool"},
	}
}

// tableKind is what the chapter's table says of a part that is made of such kinds; nothing, if they don't stand there.
func tableKind(part int, of ...string) string {
	for _, row := range chapterTable() {
		if slices.Contains(row.parts, part) && slices.Contains(strings.Split(row.of, ", "), strings.Join(of, " ")) {
			return row.kind
		}
	}
	return ""
}

// kinds tells the kind of a tree, and enters what is wrong in it by the parts' numbers.
func (t *tree) kinds(params []api.Param, wrong map[int]api.Errno) string {
	switch t.Kind {
	case api.PartValue:
		return kindNames()[t.Value.Kind]
	case api.PartParam:
		for _, p := range params {
			if p.Name == t.Name {
				return kindNames()[p.Kind]
			}
		}
		wrong[t.k] = api.ErrParam
		return ""
	}
	var of []string
	for _, kid := range t.kids {
		of = append(of, kid.kinds(params, wrong))
	}
	if slices.Contains(of, "") {
		return ""
	}
	kind := tableKind(t.Kind, of...)
	if kind == "" {
		wrong[t.k] = api.ErrKind
	}
	return kind
}

// faultOf is what P7.1 says of a condition whose tree is whole and whose parameters have each their own name.
func faultOf(c api.Cond) api.Fault {
	t, _ := grown(c.Expr, 0)
	wrong := map[int]api.Errno{}
	root := t.kinds(c.Params, wrong)
	for k := range c.Expr {
		if wrong[k] != api.OK {
			return api.Fault{Err: wrong[k], Part: len(c.Params) + k, Node: -1}
		}
	}
	if root != "bool" {
		return api.Fault{Err: api.ErrKind, Part: len(c.Params), Node: -1}
	}
	return api.Fault{}
}

// lookup is a parameter's argument, or nothing.
func lookup(c api.Cond, l []api.Arg, name string) *api.Value {
	for _, p := range c.Params {
		for _, x := range l {
			if p.Name == name && x.Name == name && x.Value.Kind == p.Kind {
				return &x.Value
			}
		}
	}
	return nil
}

// worth is what the chapter says that a tree comes to, or nothing.
func (t *tree) worth(c api.Cond, l []api.Arg) *api.Value {
	switch t.Kind {
	case api.PartValue:
		return &t.Value
	case api.PartParam:
		return lookup(c, l, t.Name)
	}
	var of []api.Value
	for _, kid := range t.kids {
		v := kid.worth(c, l)
		if v == nil {
			return nil
		}
		of = append(of, *v)
	}
	return worked(t.Kind, of)
}

func worked(kind int, of []api.Value) *api.Value {
	out := api.Value{Kind: api.ValBool}
	switch {
	case kind == api.PartMinus:
		zero := api.Value{Kind: of[0].Kind, Real: low()}
		if of[0].Kind == api.ValInt {
			zero.Real = 0
		}
		return reckoned(api.PartLess, zero, of[0])
	case kind == api.PartNo:
		out.Bool = of[0].Bool == false
	case kind <= api.PartLess:
		return reckoned(kind, of[0], of[1])
	case kind == api.PartIn:
		for _, s := range of[1].Texts {
			out.Bool = out.Bool || s == of[0].Text
		}
	case kind == api.PartBoth:
		out.Bool = of[0].Bool && of[1].Bool
	case kind == api.PartEither:
		out.Bool = of[0].Bool || of[1].Bool
	default:
		out.Bool = compared(kind, of[0], of[1])
	}
	return &out
}

// reckoned goes by whole numbers of any size, and by reals of 64 bits, which are rounded once more without harm.
func reckoned(kind int, a, b api.Value) *api.Value {
	if a.Kind == api.ValReal || b.Kind == api.ValReal {
		x, y := as64(a), as64(b)
		z := map[int]float64{api.PartTimes: x * y, api.PartOver: x / y, api.PartPlus: x + y, api.PartLess: x - y}[kind]
		return &api.Value{Kind: api.ValReal, Real: float32(z)}
	}
	x, y, z := big.NewInt(a.Int), big.NewInt(b.Int), new(big.Int)
	switch kind {
	case api.PartTimes:
		z.Mul(x, y)
	case api.PartPlus:
		z.Add(x, y)
	case api.PartLess:
		z.Sub(x, y)
	case api.PartOver:
		if b.Int == 0 {
			return nil
		}
		z.Quo(x, y)
	}
	if !z.IsInt64() {
		return nil
	}
	return &api.Value{Kind: api.ValInt, Int: z.Int64()}
}

// as64 is a number as a real of 32 bits, held in 64.
func as64(v api.Value) float64 {
	if v.Kind == api.ValReal {
		return float64(v.Real)
	}
	x, _ := new(big.Float).SetInt64(v.Int).Float32()
	return float64(x)
}

func compared(kind int, a, b api.Value) bool {
	if a.Real != a.Real || b.Real != b.Real {
		return kind == api.PartIsNot
	}
	below, above := before(a, b), before(b, a)
	return map[int]bool{
		api.PartIs: !below && !above, api.PartIsNot: below || above,
		api.PartBelow: below, api.PartAtMost: !above, api.PartAbove: above, api.PartAtLeast: !below,
	}[kind]
}

func before(a, b api.Value) bool {
	switch a.Kind {
	case api.ValBool:
		return !a.Bool && b.Bool
	case api.ValText:
		return a.Text < b.Text
	case api.ValTexts:
		for i := range min(len(a.Texts), len(b.Texts)) {
			if a.Texts[i] != b.Texts[i] {
				return a.Texts[i] < b.Texts[i]
			}
		}
		return len(a.Texts) < len(b.Texts)
	}
	return exact(a).Cmp(exact(b)) < 0
}

func exact(v api.Value) *big.Float {
	if v.Kind == api.ValInt {
		return new(big.Float).SetInt64(v.Int)
	}
	return new(big.Float).SetFloat64(float64(v.Real))
}

// readsOf are the names that an expression reads, rising, each once.
func readsOf(expr []api.Part) []string {
	seen := map[string]int{}
	var l []string
	for _, x := range expr {
		if x.Kind == api.PartParam {
			seen[x.Name]++
			if seen[x.Name] == 1 {
				l = append(l, x.Name)
			}
		}
	}
	sort.Strings(l)
	return l
}

// metOf is what P7.3 says of a condition that isn't wrong, with arguments that may be.
func metOf(c api.Cond, l []api.Arg) api.Met {
	t, _ := grown(c.Expr, 0)
	var m api.Met
	if v := t.worth(c, l); v != nil {
		m.Known, m.Met = true, v.Bool
	}
	for _, s := range readsOf(c.Expr) {
		if lookup(c, l, s) == nil {
			m.Lacks = append(m.Lacks, s)
		}
	}
	return m
}

// foldOf is what P7.4 says of a condition that isn't wrong, with arguments that fit.
func foldOf(c api.Cond, l []api.Arg) api.Cond {
	t, _ := grown(c.Expr, 0)
	return api.Cond{Name: c.Name, Params: c.Params, Expr: t.folded(c, l)}
}

func (t *tree) folded(c api.Cond, l []api.Arg) []api.Part {
	if v := t.worth(c, l); v != nil {
		return value(*v)
	}
	out := []api.Part{t.Part}
	for _, kid := range t.kids {
		out = append(out, kid.folded(c, l)...)
	}
	return out
}
