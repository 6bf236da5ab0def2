package values_test

import (
	"bytes"
	"slices"
	"testing"

	"latchkey/api"
	"latchkey/values"
)

// roomy answers a list with room behind its end, in which something stands.
func roomy(l []string) []string {
	wide := append(slices.Clone(l), "behind", "behind")
	return wide[:len(l)]
}

func roomyArgs(n int) []api.Arg {
	wide := append(args(n), arg("behind", text("behind")), arg("behind", text("behind")))
	return wide[:n]
}

func untouched(t *testing.T, l []string, want []string) {
	t.Helper()
	if wide := l[:len(l)+2]; !slices.Equal(l, want) || wide[len(l)] != "behind" || wide[len(l)+1] != "behind" {
		t.Errorf("%q was written", wide)
	}
}

// DOC.md, Memory: no list that comes in is written, nor the room behind its end.
func TestNothingIsWritten(t *testing.T) {
	want := []string{"b", "a\n", ""}
	l := roomy(want)
	v, few := list(l...), list("b")
	v.Texts = l
	own, ctx := roomyArgs(3), roomyArgs(5)
	own[1].Value, ctx[4].Value = v, v
	b, _ := values.Encode(v)
	wide := append(bytes.Clone(b), 7, 7)
	for range 2 {
		values.Check(v)
		values.Same(v, v)
		values.Compare(v, few)
		values.Compare(few, v)
		values.In(text("a"), v)
		values.Text(v)
		values.Encode(v)
		values.Decode(wide[:len(b)])
		values.Args(own)
		values.SameArgs(own, ctx)
		values.Merge(own, ctx)
		values.Merge(ctx, own)
		values.Merge(own, nil)
	}
	untouched(t, l, want)
	if !bytes.Equal(wide, append(bytes.Clone(b), 7, 7)) {
		t.Errorf("the bytes were written: % x", wide)
	}
	for _, l := range [][]api.Arg{own, ctx} {
		for i, a := range l[:len(l)+2] {
			if i < len(l) && a.Name != args(i + 1)[i].Name || i >= len(l) && a.Name != "behind" {
				t.Errorf("an argument was written: %s", show(a))
			}
		}
	}
}

// scrawl writes all over a list and the room behind it.
func scrawl(l []string) {
	l = l[:cap(l)]
	for i := range l {
		l[i] = "scrawl"
	}
}

// DOC.md, Memory: what Merge answers has nothing in common with what came in, nor have its lists with one another.
func TestMergeIsTheCallers(t *testing.T) {
	shared := roomy([]string{"x", "y"})
	none := roomy(nil)
	own := []api.Arg{arg("a", list(shared...)), arg("c", list(shared...)), arg("e", list()), arg("f", whole(1))}
	ctx := []api.Arg{arg("b", list(shared...)), arg("d", list(shared...))}
	for i := range 2 {
		own[i].Value.Texts, ctx[i].Value.Texts = shared, shared
		own[i+2].Value.Texts = none
	}
	want := []api.Arg{arg("a", list("x", "y")), arg("b", list("x", "y")), arg("c", list("x", "y")), arg("d", list("x", "y")), arg("e", list()), arg("f", whole(1))}
	got, _ := values.Merge(own, ctx)
	again, _ := values.Merge(own, ctx)
	for i := range got {
		scrawl(got[i].Value.Texts)
		for j := range got {
			if j > i && !values.Same(got[j].Value, want[j].Value) {
				t.Errorf("behind %d: %s", i, show(got[j]))
			}
		}
		got[i].Name = "scrawl"
	}
	for _, l := range [][]api.Arg{got[:cap(got)]} {
		clear(l)
	}
	untouched(t, shared, []string{"x", "y"})
	untouched(t, none, nil)
	if !values.SameArgs(again, want) || !values.SameArgs(own, []api.Arg{want[0], want[2], want[4], want[5]}) || !values.SameArgs(ctx, []api.Arg{want[1], want[3]}) {
		t.Errorf("%s, %s, %s", show(again), show(own), show(ctx))
	}
}

// DOC.md, Memory: what Merge answers stays when what came in is changed.
func TestMergeKeeps(t *testing.T) {
	own, ctx := []api.Arg{arg("a", list("x"))}, []api.Arg{arg("b", list("y"))}
	got, _ := values.Merge(own, ctx)
	own[0].Value.Texts[0], ctx[0].Value.Texts[0] = "scrawl", "scrawl"
	own[0].Name, ctx[0].Name = "z", "z"
	if !values.SameArgs(got, []api.Arg{arg("a", list("x")), arg("b", list("y"))}) {
		t.Errorf("%s", show(got))
	}
}

// DOC.md, Memory: lists and bytes that are read or written are the caller's own.
func TestAnswersAreTheCallers(t *testing.T) {
	v := list("x", "y")
	b, _ := values.Encode(v)
	in := bytes.Clone(b)
	for range 2 {
		parsed, _ := values.Parse(`["x", "y"]`)
		decoded, _ := values.Decode(in)
		row, _ := values.Encode(v)
		if !values.Same(parsed, v) || !values.Same(decoded, v) || !bytes.Equal(row, b) {
			t.Errorf("%s, %s, % x", show(parsed), show(decoded), row)
		}
		scrawl(parsed.Texts)
		scrawl(decoded.Texts)
		clear(row[:cap(row)])
	}
	decoded, _ := values.Decode(in)
	clear(in)
	if !values.Same(decoded, v) {
		t.Errorf("%s", show(decoded))
	}
}
