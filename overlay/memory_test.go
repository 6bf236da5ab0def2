package overlay_test

import (
	"fmt"
	"iter"
	"math"
	"runtime"
	"slices"
	"sync"
	"testing"

	"latchkey/api"
	"latchkey/overlay"
)

// wideTuple has lists with something in the room behind their ends.
func wideTuple(s string) api.Tuple {
	x := fact(s)
	x.Args = withRoom(x.Args, arg("behind", 1))
	for i := range x.Args {
		x.Args[i].Value.Texts = withRoom(x.Args[i].Value.Texts, "behind")
	}
	return x
}

func withRoom[T any](l []T, behind T) []T {
	return append(append(make([]T, 0, len(l)+2), l...), behind, behind)[:len(l)]
}

// behindToo tells all that stands in tuples, in their lists and in the room behind these.
func behindToo(l []api.Tuple) string {
	s := ""
	for _, x := range l[:cap(l)] {
		s += wholeTuple(x)
		for _, a := range x.Args[:cap(x.Args)] {
			s += fmt.Sprintf("%q %d %q", a.Name, a.Value.Int, a.Value.Texts[:cap(a.Value.Texts)])
		}
	}
	return s
}

// scrawl writes all over a tuple's lists and the room behind them.
func scrawl(x api.Tuple) {
	for i := range x.Args[:cap(x.Args)] {
		a := &x.Args[:cap(x.Args)][i]
		l := a.Value.Texts[:cap(a.Value.Texts)]
		for k := range l {
			l[k] = "scrawl"
		}
		*a = api.Arg{Name: "scrawl"}
	}
}

func scrawlAll(l []api.Tuple) {
	for i := range l[:cap(l)] {
		scrawl(l[:cap(l)][i])
		l[:cap(l)][i] = fact("scrawl:s#s@s:s")
	}
}

const listed = `doc:1#viewer@user:ann with c{at: 4, l: ["b", "a", ""]}`

func wideMore() []api.Tuple {
	return withRoom([]api.Tuple{wideTuple(listed), wideTuple(`doc:2#viewer@user:ann with c{l: ["b"]}`), wideTuple("doc:0#owner@user:ann"), wideTuple(`team:x#member@user:* with c{at: 1, l: []}`)}, fact("doc:9#owner@user:behind"))
}

func wideLess() []api.Tuple {
	return withRoom([]api.Tuple{wideTuple("doc:2#owner@user:ann"), wideTuple(`doc:10#viewer@user:ann with none{l: ["b"]}`)}, fact("doc:1#owner@user:ann"))
}

// DOC.md, Memory: no list that comes in is written, nor the room behind its end, nor is that room read, whatever is answered.
func TestNothingIsWritten(t *testing.T) {
	src := mixedSnap(t)
	more, less := wideMore(), wideLess()
	was := behindToo(more) + behindToo(less)
	o := laid(t, src, more, less)
	wantTuples(t, "what is behind", o.By(subject("user", "behind", "")))
	wantTuples(t, "what is behind", o.Of(object("doc", "1"), "owner"), "doc:1#owner@user:ann", "doc:1#owner@user:bob")
	laid(t, o, more, less)
	wantRefused(t, src, api.ErrTwice, more, more)
	wantRefused(t, src, api.ErrTwice, append(more[:1:1], more[0]), less)
	wantRefused(t, src, api.ErrAllowed, less, nil)
	if o, e := overlay.Over(nil, more, less); o != nil || e != api.ErrNil {
		t.Errorf("%v, %d", o, e)
	}
	wholeOf(o)
	if now := behindToo(more) + behindToo(less); now != was {
		t.Errorf("%s\nbut\n%s", was, now)
	}
}

// DOC.md, Memory: what came in isn't kept: written over behind the call, it shows nowhere, nor in walks that were given ahead.
func TestWhatComesInIsForgotten(t *testing.T) {
	src := mixedSnap(t)
	more, less := wideMore(), wideLess()
	o := laid(t, src, more, less)
	was := wholeOf(o)
	walks := walksOf(o)
	told := map[string]string{}
	for name, walk := range walks {
		told[name] = wholeTuples(collect(walk))
	}
	scrawlAll(more)
	scrawlAll(less)
	wantWhole(t, o, was)
	for name, walk := range walks {
		if now := wholeTuples(collect(walk)); now != told[name] {
			t.Errorf("%s: %s\nbut\n%s", name, told[name], now)
		}
	}
	wantWhole(t, laid(t, o, nil, nil), was)
}

// DOC.md, Memory: what is told is the caller's own, the room behind it too: what is written there shows neither in the overlay, nor in its source, nor in another round, nor in another list of the same one.
func TestAnswersAreTheCallers(t *testing.T) {
	src := mixedSnap(t)
	low := laid(t, src, wideMore(), wideLess())
	high := laid(t, low, facts(`doc:1#viewer@user:ann with c{at: 9, l: ["x", "y"]}`), facts("doc:0#owner@user:ann"))
	for _, o := range []*overlay.Overlay{low, high} {
		wasSrc, wasLow, was := wholeOf(src), wholeOf(low), wholeOf(o)
		for name, walk := range map[string]iter.Seq[api.Tuple]{"All": o.All(), "Of": o.Of(object("doc", "1"), "viewer"), "By": o.By(subject("user", "ann", ""))} {
			one, two := collect(walk), collect(walk)
			var want []string
			for _, x := range one {
				want = append(want, wholeTuple(x))
			}
			if !slices.ContainsFunc(one, func(x api.Tuple) bool { return len(x.Args) > 1 && len(x.Args[1].Value.Texts) > 1 }) {
				t.Fatalf("%s tells too little: %q", name, want)
			}
			for i, x := range one {
				scrawl(x)
				for k := i + 1; k < len(one); k++ {
					if wholeTuple(one[k]) != want[k] {
						t.Errorf("%s: what was written into %d shows in %d", name, i, k)
					}
				}
			}
			for i, x := range two {
				if wholeTuple(x) != want[i] {
					t.Errorf("%s: what was written shows in another round", name)
				}
			}
			// Written over while the walk is on, too.
			i := 0
			for x := range walk {
				if wholeTuple(x) != want[i] {
					t.Errorf("%s: what was written shows in the same round", name)
				}
				scrawl(x)
				i++
			}
		}
		wantWhole(t, src, wasSrc)
		wantWhole(t, low, wasLow)
		wantWhole(t, o, was)
	}
}

// DOC.md, Memory: nil and empty are the same.
func TestNilAndEmpty(t *testing.T) {
	src := mixedSnap(t)
	x := fact(`doc:1#viewer@user:ann with c{l: []}`)
	x.Args[0].Value.Texts = []string{}
	y := fact("doc:0#owner@user:ann")
	y.Args = []api.Arg{}
	want := put(put(mixed(), `doc:1#viewer@user:ann with c{l: []}`), "doc:0#owner@user:ann")
	wantHas(t, laid(t, src, []api.Tuple{x, y}, []api.Tuple{}), want...)
	wantHas(t, laid(t, laid(t, src, []api.Tuple{x, y}, nil), []api.Tuple{}, []api.Tuple{y}), want[1:]...)
}

// DOC.md, P1: what is laid is told as the same, bit by bit.
func TestValuesStay(t *testing.T) {
	src := snapOf(t, "type u type d relation r: [u with c] cond c(b: bool, i: int, l: texts, r: real, t: text): true", "d:1#r@u:x with c")
	x := fact(`d:1#r@u:x with c{b: true, i: -9223372036854775808, l: ["", "\xff\x00"], r: 0.1, t: "\x80"}`)
	for _, bits := range []uint32{0, 1 << 31, 1, 0x7f800000, 0xff800000, 0x7fc00000, 0x7fc00001, 0xffffffff} {
		x.Args[3].Value.Real = math.Float32frombits(bits)
		o := laid(t, laid(t, src, []api.Tuple{x}, nil), nil, nil)
		for name, walk := range map[string]iter.Seq[api.Tuple]{"All": o.All(), "Of": o.Of(x.Object, x.Rel), "By": o.By(x.Subject)} {
			if got := wholeTuples(collect(walk)); got != wholeTuples([]api.Tuple{x}) {
				t.Errorf("%s: %s, want %s", name, got, wholeTuple(x))
			}
		}
	}
}

// DOC.md, Sameness: the same call answers the same, whatever else runs: several look at one overlay, and lay others over it.
func TestSideBySide(t *testing.T) {
	src := mixedSnap(t)
	o := laid(t, src, wideMore(), wideLess())
	want, wantSrc := wholeOf(o), wholeOf(src)
	var all sync.WaitGroup
	for i := range 8 {
		all.Go(func() {
			for range 20 {
				up, e := overlay.Over(o, owners(i), nil)
				if e != api.OK || up.Len() != o.Len()+i || wholeOf(o) != want || wholeOf(src) != wantSrc {
					t.Error("an answer differs while others run")
				}
			}
		})
	}
	all.Wait()
}

// DOC.md, Sameness: no call leaves a goroutine behind.
func TestNoGoroutines(t *testing.T) {
	was := runtime.NumGoroutine()
	for range 50 {
		o := woven(t)
		wholeOf(o)
		for _, walk := range walksOf(o) {
			for range walk {
				break
			}
		}
	}
	if now := runtime.NumGoroutine(); now > was {
		t.Errorf("%d goroutines, where %d were", now, was)
	}
}
