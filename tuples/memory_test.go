package tuples_test

import (
	"bytes"
	"fmt"
	"slices"
	"sync"
	"testing"

	"latchkey/api"
	"latchkey/tuples"
)

// roomy is a copy of a list with something in the room behind its end.
func roomy[T any](l []T, behind T) []T {
	return append(append(make([]T, 0, len(l)+2), l...), behind, behind)[:len(l)]
}

// roomyTuple has lists of arguments and texts with something behind their ends.
func roomyTuple() api.Tuple {
	x := fact(`doc:1#viewer@user:a with office{at: 9, l: ["b", "a", ""], m: [], on: "mon"}`)
	x.Args = roomy(x.Args, arg("behind", text("behind")))
	for i := range x.Args {
		x.Args[i].Value.Texts = roomy(x.Args[i].Value.Texts, "behind")
	}
	return x
}

// wholly tells all that stands in a tuple's lists and in the room behind them.
func wholly(x api.Tuple) string {
	s := fmt.Sprintf("%q %q %q %q", x.Object, x.Rel, x.Subject, x.Cond)
	for _, a := range x.Args[:cap(x.Args)] {
		s += fmt.Sprintf("%q %d %v %q", a.Name, a.Value.Int, a.Value.Text, a.Value.Texts[:cap(a.Value.Texts)])
	}
	return s
}

// scrawl writes all over a tuple's lists and the room behind them.
func scrawl(x api.Tuple) {
	for i := range x.Args[:cap(x.Args)] {
		a := &x.Args[:cap(x.Args)][i]
		l := a.Value.Texts[:cap(a.Value.Texts)]
		for k := range l {
			l[k] = "scrawl"
		}
		*a = arg("scrawl", api.Value{})
	}
}

// DOC.md, Memory: no list that comes in is written, nor the room behind its end, whatever is answered.
func TestNothingIsWritten(t *testing.T) {
	m := model(t, office)
	x, y := roomyTuple(), roomyTuple()
	good := x
	good.Args = roomy(good.Args[:1], arg("behind", text("behind")))
	b := bytesOf(x)
	wide := roomy(b, 7)
	was := []string{wholly(x), wholly(y), wholly(good)}
	for range 2 {
		for _, z := range []api.Tuple{x, good, under(fact("a:b#c@d:e"), x.Args...)} {
			tuples.Check(m, z)
			tuples.Check(nil, z)
			tuples.Same(z, y)
			tuples.Same(y, z)
			tuples.Compare(z, y)
			tuples.Backward(z, y)
			tuples.Text(z)
			tuples.Encode(z)
			tuples.Lets(api.Filter{}, z)
		}
		tuples.Decode(wide)
		tuples.Decode(wide[:len(wide)-1])
	}
	if got := []string{wholly(x), wholly(y), wholly(good)}; !slices.Equal(got, was) {
		t.Errorf("%s, not %s", got, was)
	}
	if !bytes.Equal(wide, b) || !bytes.Equal(wide[:len(b)+2], append(bytes.Clone(b), 7, 7)) {
		t.Errorf("the bytes were written: % x", wide[:len(b)+2])
	}
}

// DOC.md, Memory: the room behind a list isn't read either: what goes on there is no part of it.
func TestRoomIsNotRead(t *testing.T) {
	x := roomyTuple()
	wantText(t, x, `doc:1#viewer@user:a with office{at: 9, l: ["b", "a", ""], m: [], on: "mon"}`)
	wantBytes(t, x, bytesOf(x))
	b := bytesOf(fact("d:1#r@u:a"))
	wantUndecoded(t, b[:len(b)-1])
}

// DOC.md, Memory: what is answered is the caller's own, the room behind it too: what is written there shows in no other list of the answer, in no other answer, nor in what came in.
func TestAnswersAreTheCallers(t *testing.T) {
	x := roomyTuple()
	s, b := textOf(x), bytesOf(x)
	in := bytes.Clone(b)
	readings := map[string]func() api.Tuple{
		"Parse":  func() api.Tuple { y, _ := tuples.Parse(s); return y },
		"Decode": func() api.Tuple { y, _ := tuples.Decode(in); return y },
	}
	for name, read := range readings {
		one, two := read(), read()
		for i := range one.Args {
			l := one.Args[i].Value.Texts
			for k := range l[:cap(l)] {
				l[:cap(l)][k] = "scrawl"
			}
			for k := i + 1; k < len(one.Args); k++ {
				if !alike(under(one, one.Args[k]), under(x, x.Args[k])) {
					t.Errorf("%s: what was written into argument %d shows in %d", name, i, k)
				}
			}
		}
		scrawl(one)
		if !alike(two, x) || !alike(read(), x) {
			t.Errorf("%s: what was written shows in another answer", name)
		}
	}
	one, _ := tuples.Encode(x)
	two, _ := tuples.Encode(x)
	clear(one[:cap(one)])
	if !bytes.Equal(two, b) || !bytes.Equal(in, b) || wholly(x) != wholly(roomyTuple()) {
		t.Errorf("% x", two)
	}
}

// DOC.md, Memory: what was answered stays when what came in is changed.
func TestAnswersAreKept(t *testing.T) {
	x := roomyTuple()
	s, _ := tuples.Text(x)
	b, _ := tuples.Encode(x)
	in := bytes.Clone(b)
	y, _ := tuples.Decode(in)
	clear(in)
	scrawl(x)
	if want := roomyTuple(); !alike(y, want) || s != textOf(want) || !bytes.Equal(b, bytesOf(want)) {
		t.Errorf("%s, %s, % x", show(y), s, b)
	}
}

// DOC.md, Memory: nil and empty are the same.
func TestNilAndEmpty(t *testing.T) {
	m := model(t, office)
	x, y := fact("doc:1#viewer@user:a with office"), fact("doc:1#viewer@user:a with office")
	x.Args, y.Args = nil, []api.Arg{}
	wantFit(t, m, y, api.OK)
	wantText(t, y, textOf(x))
	wantBytes(t, y, bytesOf(x))
	if !tuples.Same(x, y) || !tuples.Same(y, x) {
		t.Error("nil and empty arguments")
	}
	x.Args, y.Args = []api.Arg{arg("l", list())}, []api.Arg{arg("l", api.Value{Kind: api.ValTexts, Texts: []string{}})}
	wantText(t, y, textOf(x))
	wantBytes(t, y, bytesOf(x))
	if !tuples.Same(x, y) {
		t.Error("nil and empty texts")
	}
	y.Args = []api.Arg{arg("at", api.Value{Kind: api.ValInt, Int: 9, Texts: []string{}})}
	wantFit(t, m, y, api.OK)
	wantUndecoded(t, []byte{})
}

// DOC.md, Sameness: the same call answers the same, whatever else runs.
func TestSideBySide(t *testing.T) {
	m := model(t, office)
	x := roomyTuple()
	good := under(x, x.Args[0])
	s, b := textOf(x), bytesOf(x)
	var all sync.WaitGroup
	for range 8 {
		all.Go(func() {
			for range 100 {
				text, _ := tuples.Text(x)
				row, _ := tuples.Encode(x)
				y, _ := tuples.Parse(s)
				z, _ := tuples.Decode(b)
				if tuples.Check(m, x) != api.ErrParam || tuples.Check(m, good) != api.OK || text != s || !bytes.Equal(row, b) || !alike(y, x) || !alike(z, x) {
					t.Error("an answer differs while others run")
				}
			}
		})
	}
	all.Wait()
}
