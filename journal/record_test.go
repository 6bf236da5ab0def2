package journal_test

import (
	"fmt"
	"math"
	"strings"
	"testing"

	"latchkey/api"
	"latchkey/journal"
)

// wantRecord asks for a record, byte by byte.
func wantRecord(t *testing.T, c api.Commit, want string) {
	t.Helper()
	if got := record(t, c); got != want {
		t.Errorf("Record(%s): %x, want %x", show(wholeCommit(c)), show(got), show(want))
	}
}

// P14.1: records of writes, written out.
func TestRecordOfWrites(t *testing.T) {
	const tuple = "\x0d\x01d\x011\x01r\x01u\x01a\x00\x00\x00"
	const set = "\x16\x04team\x01x\x02is\x04team\x01y\x02is\x00\x00"
	const all = "\x0d\x01d\x011\x01r\x01u\x01*\x00\x00\x00"
	const args = "\x19\x01d\x011\x01r\x01u\x01a\x00\x01c\x02\x01b\x02\x01\x01\x01n\x03\x02\xd8\x04"
	for _, c := range []struct {
		commit api.Commit
		body   string
	}{
		{written(0), "\x00\x01\x00"},
		{written(5), "\x05\x01\x00"},
		{written(300), "\xac\x02\x01\x00"},
		{written(5, in("d:1#r@u:a")), "\x05\x01\x01\x01" + tuple},
		{written(5, out("d:1#r@u:a")), "\x05\x01\x01\x02" + tuple},
		{written(5, touch("d:1#r@u:a")), "\x05\x01\x01\x03" + tuple},
		{written(5, in("d:1#r@u:a"), out("d:1#r@u:a"), in("d:1#r@u:a")), "\x05\x01\x03\x01" + tuple + "\x02" + tuple + "\x01" + tuple},
		{written(127, touch("team:x#is@team:y#is"), in("d:1#r@u:*")), "\x7f\x01\x02\x03" + set + "\x01" + all},
		{written(5, in("d:1#r@u:a with c{b: true, n: 300}")), "\x05\x01\x01\x01" + args},
	} {
		wantRecord(t, c.commit, summed("\x6c"+string([]byte{byte(len(c.body))})+c.body))
		wantScan(t, record(t, c.commit), len(c.body)+10, c.commit)
	}
	// With the sum written out too, the highest byte first.
	wantRecord(t, written(5), "\x6c\x03\x05\x01\x00\xf8\xb0\x3e\xb9\xda\x3a\xbf\xb6")
}

// P14.1: records of schemas, written out: it is the own text, however the schema was laid out.
func TestRecordOfSchemas(t *testing.T) {
	const own = "type user\ntype doc\n  relation owner: [user]\n"
	wantRecord(t, api.Commit{Kind: api.CommitSchema}, summed("\x6c\x03\x00\x02\x00"))
	wantRecord(t, changed(7, smallText), summed("\x6c\x2f\x07\x02\x2c"+own))
	wantRecord(t, changed(7, " type user//\n type doc relation owner:([user])"), summed("\x6c\x2f\x07\x02\x2c"+own))
	// What no model could be may be written all the same.
	wantRecord(t, changed(1, "type a type a"), summed("\x6c\x11\x01\x02\x0etype a\ntype a\n"))
	long := "cond c(): \"" + strings.Repeat("x", 200) + "\"\n"
	wantRecord(t, changed(1, long), summed("\x6c\xd9\x01\x01\x02\xd5\x01"+long))
}

// P14.1: Rev at and beyond both its bounds, of both kinds.
func TestRecordRev(t *testing.T) {
	for _, c := range []struct {
		rev  int64
		form string
	}{{0, "\x00"}, {1, "\x01"}, {1 << 31, "\x80\x80\x80\x80\x08"}, {api.MaxRev - 1, "\xff\xff\xff\xff\xff\xff\xff\xff\x3f"}, {api.MaxRev, "\x80\x80\x80\x80\x80\x80\x80\x80\x40"}} {
		wantRecord(t, written(c.rev), sealed(c.form+"\x01\x00"))
		wantRecord(t, api.Commit{Rev: c.rev, Kind: api.CommitSchema}, sealed(c.form+"\x02\x00"))
		wantScan(t, sealed(c.form+"\x01\x00"), len(c.form)+12, written(c.rev))
	}
	for _, rev := range []int64{-1, -300, math.MinInt64, api.MaxRev + 1, math.MaxInt64} {
		wantNoRecord(t, written(rev), api.ErrArg)
		wantNoRecord(t, api.Commit{Rev: rev, Kind: api.CommitSchema}, api.ErrArg)
	}
}

// P14.1: there are two kinds of commits and three of changes.
func TestRecordKinds(t *testing.T) {
	for _, kind := range []int{0, 3, -1, 257, 258, 1 << 40, math.MinInt, math.MaxInt} {
		wantNoRecord(t, api.Commit{Rev: 1, Kind: kind}, api.ErrArg)
		wantNoRecord(t, api.Commit{Rev: 1, Kind: kind, Changes: owners(api.ChangeInsert, 3), Schema: parsed(smallText)}, api.ErrArg)
	}
	for _, kind := range []int{0, 4, -1, 257, 258, 259, math.MinInt, math.MaxInt} {
		wantNoRecord(t, written(1, api.Change{Kind: kind, Tuple: fact("d:1#r@u:a")}), api.ErrArg)
		wantNoRecord(t, written(1, in("d:1#r@u:b"), api.Change{Kind: kind, Tuple: fact("d:1#r@u:a")}), api.ErrArg)
	}
}

// P14.1: 256 changes may be written, 257 may not.
func TestRecordBatch(t *testing.T) {
	for _, kind := range []int{api.ChangeInsert, api.ChangeDelete, api.ChangeTouch} {
		for _, n := range []int{127, 128, 255, 256} {
			c := written(9, owners(kind, n)...)
			wantRecord(t, c, plainRecord(c))
			wantScan(t, plainRecord(c), len(plainRecord(c)), c)
		}
		for _, n := range []int{257, 258, 1000} {
			c := written(9, owners(kind, n)...)
			wantNoRecord(t, c, api.ErrLong)
			wantScan(t, plainRecord(c), 0)
		}
	}
	wantNoRecord(t, written(9, make([]api.Change, 1<<20)...), api.ErrLong)
}

// oddTuples are those that may not be, each for another reason.
func oddTuples() []api.Tuple {
	const long = "x23456789012345678901234567890123" // 33 bytes
	id := strings.Repeat("x", 65)
	set := func(do func(x *api.Tuple)) api.Tuple {
		x := fact("d:1#r@u:a with c{n: 1}")
		do(&x)
		return x
	}
	return []api.Tuple{
		{},
		set(func(x *api.Tuple) { x.Object.Type = "" }), set(func(x *api.Tuple) { x.Object.Type = "D" }), set(func(x *api.Tuple) { x.Object.Type = "or" }), set(func(x *api.Tuple) { x.Object.Type = long }),
		set(func(x *api.Tuple) { x.Object.Id = "" }), set(func(x *api.Tuple) { x.Object.Id = "*" }), set(func(x *api.Tuple) { x.Object.Id = id }),
		set(func(x *api.Tuple) { x.Rel = "" }), set(func(x *api.Tuple) { x.Rel = "R" }), set(func(x *api.Tuple) { x.Rel = "not" }),
		set(func(x *api.Tuple) { x.Subject.Type = "" }), set(func(x *api.Tuple) { x.Subject.Id = "" }), set(func(x *api.Tuple) { x.Subject.Id = id }), set(func(x *api.Tuple) { x.Subject.Rel = "R" }),
		set(func(x *api.Tuple) { x.Subject.Id, x.Subject.Rel = "*", "r" }),
	}
}

// oddConds are tuples that may not be for what isn't their key.
func oddConds() []api.Tuple {
	var l []api.Tuple
	for _, c := range []struct {
		cond string
		args []api.Arg
	}{
		{"C", nil}, {"from", nil}, {strings.Repeat("c", 33), nil},
		{"", []api.Arg{arg("n", 1)}},
		{"c", []api.Arg{arg("N", 1)}}, {"c", []api.Arg{arg("b", 1), arg("a", 1)}}, {"c", []api.Arg{arg("a", 1), arg("a", 1)}}, {"c", make([]api.Arg, 17)},
		{"c", []api.Arg{{Name: "a"}}}, {"c", []api.Arg{{Name: "a", Value: api.Value{Kind: 6}}}}, {"c", []api.Arg{{Name: "a", Value: api.Value{Kind: api.ValInt, Text: "x"}}}},
		{"c", []api.Arg{{Name: "a", Value: api.Value{Kind: api.ValText, Text: strings.Repeat("x", 257)}}}}, {"c", []api.Arg{{Name: "a", Value: api.Value{Kind: api.ValTexts, Texts: make([]string, 33)}}}},
	} {
		x := fact("d:1#r@u:a")
		x.Cond, x.Args = c.cond, c.args
		l = append(l, x)
	}
	return l
}

// P14.1: a tuple that may not be is refused, of a delete only if its key may not be.
func TestRecordTuples(t *testing.T) {
	for _, kind := range []int{api.ChangeInsert, api.ChangeTouch, api.ChangeDelete} {
		for _, x := range oddTuples() {
			wantNoRecord(t, written(1, api.Change{Kind: kind, Tuple: x}), api.ErrTuple)
			wantNoRecord(t, written(1, in("d:1#r@u:b"), api.Change{Kind: kind, Tuple: x}), api.ErrTuple)
		}
	}
	key := sealed("\x01\x01\x01\x02\x0d\x01d\x011\x01r\x01u\x01a\x00\x00\x00")
	for _, x := range oddConds() {
		for _, kind := range []int{api.ChangeInsert, api.ChangeTouch} {
			wantNoRecord(t, written(1, api.Change{Kind: kind, Tuple: x}), api.ErrTuple)
		}
		c := written(1, api.Change{Kind: api.ChangeDelete, Tuple: x})
		wantRecord(t, c, key)
		wantScan(t, key, len(key), written(1, out("d:1#r@u:a")))
	}
	wantRecord(t, written(1, out(`d:1#r@u:a with c{n: 1}`)), key)
}

// P14.1: of several reasons the first is told: Rev and Kind, then how many changes, then change by change its Kind and its Tuple.
func TestRecordOrder(t *testing.T) {
	noKind, noTuple := api.Change{Tuple: fact("d:1#r@u:a")}, api.Change{Kind: api.ChangeInsert}
	neither := api.Change{}
	many := append(owners(api.ChangeInsert, 256), in("d:1#r@u:a"))
	wantNoRecord(t, written(-1, many...), api.ErrArg)
	wantNoRecord(t, written(-1, noTuple), api.ErrArg)
	wantNoRecord(t, api.Commit{Rev: 1, Kind: 3, Changes: many}, api.ErrArg)
	wantNoRecord(t, api.Commit{Rev: 1, Kind: 0, Changes: []api.Change{noTuple}}, api.ErrArg)
	wantNoRecord(t, api.Commit{Rev: -1, Kind: api.CommitSchema, Schema: api.Schema{Types: make([]api.Type, 1)}}, api.ErrArg)
	for i := range 3 {
		for _, odd := range []api.Change{noKind, noTuple, neither} {
			l := append(owners(api.ChangeInsert, 254), in("d:1#r@u:a"), in("d:1#r@u:b"), in("d:1#r@u:c"))
			l[128*i] = odd
			wantNoRecord(t, written(1, l...), api.ErrLong)
		}
	}
	wantNoRecord(t, written(1, neither), api.ErrArg)
	wantNoRecord(t, written(1, noKind, noTuple), api.ErrArg)
	wantNoRecord(t, written(1, noTuple, noKind), api.ErrTuple)
	wantNoRecord(t, written(1, in("d:1#r@u:a"), noTuple, noKind), api.ErrTuple)
	wantNoRecord(t, written(1, in("d:1#r@u:a"), neither, noTuple), api.ErrArg)
}

// P14.1: a schema's fault is told by syntax.Check's error.
func TestRecordSchemaFaults(t *testing.T) {
	this := []api.Node{{Kind: api.NodeThis, Allow: []api.Allow{{Type: "a"}}}}
	relation := func(l []api.Node) api.Schema {
		return api.Schema{Types: []api.Type{{Name: "a", Relations: []api.Relation{{Name: "r", Rewrite: l}}}}}
	}
	deep := []api.Node{}
	for range 16 {
		deep = append(deep, api.Node{Kind: api.NodeNot, Kids: 2}, this[0])
	}
	value := func(v api.Value) api.Schema {
		return api.Schema{Conds: []api.Cond{{Name: "c", Expr: []api.Part{{Kind: api.PartValue, Value: v}}}}}
	}
	for _, c := range []struct {
		schema api.Schema
		want   api.Errno
	}{
		{api.Schema{Types: []api.Type{{Name: "A"}}}, api.ErrName},
		{api.Schema{Types: []api.Type{{Name: "a"}, {}}}, api.ErrName},
		{api.Schema{Types: make([]api.Type, 33)}, api.ErrLong},
		{api.Schema{Conds: make([]api.Cond, 33)}, api.ErrLong},
		{relation(nil), api.ErrTree},
		{relation([]api.Node{{Kind: 7}}), api.ErrTree},
		{relation(append(this[:1:1], this[0])), api.ErrTree},
		{relation([]api.Node{{Kind: api.NodeSame}}), api.ErrName},
		{relation(append(deep, this[0])), api.ErrLong},
		{value(api.Value{}), api.ErrValue},
		{value(api.Value{Kind: api.ValText, Text: strings.Repeat("x", 257)}), api.ErrValue},
	} {
		wantNoRecord(t, api.Commit{Rev: 1, Kind: api.CommitSchema, Schema: c.schema}, c.want)
		wantNoRecord(t, api.Commit{Rev: 1, Kind: api.CommitSchema, Schema: c.schema, Changes: make([]api.Change, 257)}, c.want)
	}
}

// P14.1: what a commit of its Kind doesn't say isn't looked at, and isn't told.
func TestRecordOfOneKind(t *testing.T) {
	odd := api.Schema{Types: []api.Type{{Name: "A"}}}
	c := written(3, in("d:1#r@u:a"))
	want := plainRecord(c)
	c.Schema = odd
	wantRecord(t, c, want)
	c.Schema = parsed(smallText)
	wantRecord(t, c, want)
	wantScan(t, want, len(want), written(3, in("d:1#r@u:a")))
	c = changed(3, smallText)
	want = plainRecord(c)
	c.Changes = make([]api.Change, 257)
	wantRecord(t, c, want)
	c.Changes = []api.Change{in("d:1#r@u:a"), {Kind: 9}}
	wantRecord(t, c, want)
	wantScan(t, want, len(want), changed(3, smallText))
}

// P14.1: tuples of every kind of value, byte by byte.
func TestRecordValues(t *testing.T) {
	for _, v := range []api.Value{
		{Kind: api.ValBool}, {Kind: api.ValBool, Bool: true}, {Kind: api.ValInt}, {Kind: api.ValInt, Int: -1}, {Kind: api.ValInt, Int: math.MinInt64}, {Kind: api.ValInt, Int: math.MaxInt64},
		{Kind: api.ValReal}, {Kind: api.ValReal, Real: float32(math.Copysign(0, -1))}, {Kind: api.ValReal, Real: -1.5}, {Kind: api.ValReal, Real: float32(math.Inf(1))}, {Kind: api.ValReal, Real: float32(math.Inf(-1))}, {Kind: api.ValReal, Real: float32(math.NaN())},
		{Kind: api.ValText}, {Kind: api.ValText, Text: "\x00\xff\n\""}, {Kind: api.ValText, Text: strings.Repeat("x", 256)},
		{Kind: api.ValTexts}, {Kind: api.ValTexts, Texts: []string{"", "b", "a"}}, {Kind: api.ValTexts, Texts: make([]string, 32)},
	} {
		x := fact("d:1#r@u:a with c")
		x.Args = []api.Arg{{Name: "v", Value: v}}
		c := written(1, api.Change{Kind: api.ChangeTouch, Tuple: x})
		wantRecord(t, c, plainRecord(c))
		l, n := journal.Scan([]byte(plainRecord(c)))
		if len(l) != 1 || n != len(plainRecord(c)) || record(t, l[0]) != plainRecord(c) {
			t.Errorf("%+v: %s, %d", v, fmt.Sprint(l), n)
		}
	}
}
