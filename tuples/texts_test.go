package tuples_test

import (
	"math"
	"strings"
	"testing"

	"latchkey/api"
	"latchkey/tuples"
)

// fieldPool are texts that stand in the fields of tuples: names, ids, both, none, at the limits and past them.
func fieldPool() []string {
	return []string{"", "a", "z_9", "user", "A", "9", "*", "**", "a:b", "a#b", "a@b", "a b", "with", "a with b", "{", "-", "x/y", "or", "nan", "\x00", "\xff", times("n", 32), times("n", 33), times("I", 64), times("I", 65)}
}

// P10.4, P10.5: a tuple has a text and bytes just if it may be: each field by itself with all kinds of texts.
func TestFieldsOneByOne(t *testing.T) {
	for _, base := range []string{"d:1#r@u:a", "d:1#r@u:*", "d:1#r@u:a#m", "d:1#r@u:a with c", "d:1#r@u:* with c{k: 1}", "d:1#r@u:a#m with c{k: 1}"} {
		for i := range 7 {
			for _, s := range fieldPool() {
				l := fields(fact(base))
				l[i] = s
				x := under(ofFields(l), fact(base).Args...)
				if !mayBe(x) {
					wantNoText(t, x)
					wantNoBytes(t, x)
					readAsTheWordsSay(t, textOf(x))
					decodedAsTheWordsSay(t, bytesOf(x))
					continue
				}
				wantText(t, x, textOf(x))
				wantBytes(t, x, bytesOf(x))
			}
		}
	}
}

// P10.4, P10.5: subjects by two fields at a time: of each kind, and none.
func TestSubjectsThatMayBe(t *testing.T) {
	for _, id := range fieldPool() {
		for _, rel := range fieldPool() {
			x := fact("d:1#r@u:a")
			x.Subject.Id, x.Subject.Rel = id, rel
			if !mayBe(x) {
				wantNoText(t, x)
				wantNoBytes(t, x)
				wantUndecoded(t, bytesOf(x))
				continue
			}
			wantText(t, x, textOf(x))
			wantBytes(t, x, bytesOf(x))
		}
	}
}

// valuePool are values that may be: of all kinds, with all signs in their literals, and the greatest.
func valuePool() []api.Value {
	l := []api.Value{boolean(true), boolean(false), whole(0), whole(-1), whole(9), whole(math.MaxInt64), whole(math.MinInt64)}
	for _, x := range []float32{nan(), inf(), -inf(), 0, low(), 1.5, -0.1, 1e10, math.MaxFloat32, -math.MaxFloat32, math.SmallestNonzeroFloat32} {
		l = append(l, real32(x))
	}
	hard := []string{"", "#", "@", "{", "}", ",", ":", "\"", "\\", "'", " with ", "[", "]", ", ", ": ", "}, b: 1", "\"}", "\\\"", "\\\\\"", "\n", "\x00\x7f\x80\xff", "é", `"], "`, `{a: "b"}`, "d:1#r@u:a with c{k: 1}", times("x", 256), times("\xff", 256), times("\"", 256), times("\\", 256)}
	for _, s := range hard {
		l = append(l, text(s), list(s), list("", s), list(s, s, "a"))
	}
	return append(l, list(), list(hard...), list(make([]string, 32)...))
}

// P10.4, P10.5: one argument and two with each value: what stands in literals doesn't disturb.
func TestArguments(t *testing.T) {
	pool := valuePool()
	for i, v := range pool {
		for _, w := range []api.Value{whole(1), pool[(i*7+3)%len(pool)]} {
			for _, l := range [][]api.Arg{{arg("a", v)}, {arg("a", v), arg("b", w)}, {arg("a", w), arg("b", v), arg("c", w)}} {
				x := under(fact("d:1#r@u:a with c"), l...)
				wantText(t, x, textOf(x))
				wantBytes(t, x, bytesOf(x))
				for _, y := range l {
					x.Cond, x.Args = "", []api.Arg{y}
					wantNoText(t, x)
					wantNoBytes(t, x)
					wantUnread(t, textOf(x), api.ErrTuple)
					wantUndecoded(t, bytesOf(x))
				}
			}
		}
	}
}

// P10.4: some texts in full, as the chapter writes them.
func TestTextsInFull(t *testing.T) {
	x := fact("d:1#r@u:a with c")
	for s, l := range map[string][]api.Arg{
		`d:1#r@u:a with c`:                                 {},
		`d:1#r@u:a with c{a: nan}`:                         {arg("a", real32(nan()))},
		`d:1#r@u:a with c{a: -0.0, b: 0.0}`:                {arg("a", real32(low())), arg("b", real32(0))},
		`d:1#r@u:a with c{a: -9223372036854775808}`:        {arg("a", whole(math.MinInt64))},
		`d:1#r@u:a with c{a: true, b: [], c: ["x", "\n"]}`: {arg("a", boolean(true)), arg("b", list()), arg("c", list("x", "\n"))},
		`d:1#r@u:a with c{a: " with ", b: "}, c: {\"#@"}`:  {arg("a", text(" with ")), arg("b", text(`}, c: {"#@`))},
	} {
		wantText(t, under(x, l...), s)
	}
}

// P10.4: texts that are none: what is left out, put in, turned about, written otherwise.
func TestTextsOfNone(t *testing.T) {
	for _, s := range strings.Split(`d
d:1
d:1#
d:1#r
d:1#r@
d:1#r@u
d:1#r@u:
:1#r@u:a
d:#r@u:a
d#r@u:a
d:1#@u:a
d:1r@u:a
d:1#r#s@u:a
d:1#r@@u:a
d:1#r@u:a@u:a
d:1#r@u:a#
d:1#r@u:a#m#n
d:1#r@u:*#m
d:*#r@u:a
d:1#*@u:a
d:1#r@u:a,
D:1#r@u:a
d:1#R@u:a
d:1#or@u:a
d:1#r@or:a
d:1#r@u:a#or
 d:1#r@u:a
d:1#r@u:a 
d:1 #r@u:a
d:1#r @u:a
d:1#r@ u:a
d:1#r@u:a with
d:1#r@u:a with 
d:1#r@u:a with  c
d:1#r@u:a  with c
d:1#r@u:a with c 
d:1#r@u:a with C
d:1#r@u:a with or
d:1#r@u:a with c with d
d:1#r@u:a with c:1
d:1#r@u:a with*
d:1#r@u:awith c
d:1#r@u:a{k: 1}
d:1#r@u:a {k: 1}
d:1#r@u:a with {k: 1}
d:1#r@u:a with c {k: 1}
d:1#r@u:a with c{
d:1#r@u:a with c}
d:1#r@u:a with c{}
d:1#r@u:a with c{ }
d:1#r@u:a with c{k}
d:1#r@u:a with c{k:}
d:1#r@u:a with c{k: }
d:1#r@u:a with c{k: 1
d:1#r@u:a with c{k: 1}}
d:1#r@u:a with c{{k: 1}}
d:1#r@u:a with c{k:1}
d:1#r@u:a with c{k : 1}
d:1#r@u:a with c{k:  1}
d:1#r@u:a with c{ k: 1}
d:1#r@u:a with c{k: 1 }
d:1#r@u:a with c{k: 1} 
d:1#r@u:a with c{k: 1}{l: 1}
d:1#r@u:a with c{k: 1, }
d:1#r@u:a with c{k: 1,}
d:1#r@u:a with c{, k: 1}
d:1#r@u:a with c{k: 1, , l: 1}
d:1#r@u:a with c{k: 1,l: 1}
d:1#r@u:a with c{k: 1 , l: 1}
d:1#r@u:a with c{k: 1,  l: 1}
d:1#r@u:a with c{k: 1; l: 1}
d:1#r@u:a with c{k: 1 l: 1}
d:1#r@u:a with c{l: 1, k: 1}
d:1#r@u:a with c{k: 1, k: 1}
d:1#r@u:a with c{k: 1, k: 2}
d:1#r@u:a with c{: 1}
d:1#r@u:a with c{K: 1}
d:1#r@u:a with c{in: 1}
d:1#r@u:a with c{"k": 1}
d:1#r@u:a with c{k: 01}
d:1#r@u:a with c{k: +1}
d:1#r@u:a with c{k: -0}
d:1#r@u:a with c{k: 1.50}
d:1#r@u:a with c{k: NaN}
d:1#r@u:a with c{k: 9223372036854775808}
d:1#r@u:a with c{k: x}
d:1#r@u:a with c{k: l}
d:1#r@u:a with c{k: "}
d:1#r@u:a with c{k: "a}
d:1#r@u:a with c{k: a"}
d:1#r@u:a with c{k: "a""b"}
d:1#r@u:a with c{k: "\"}
d:1#r@u:a with c{k: "\x41"}
d:1#r@u:a with c{k: "\xFF"}
d:1#r@u:a with c{k: "\t"}
d:1#r@u:a with c{k: ["a","b"]}
d:1#r@u:a with c{k: [ "a"]}
d:1#r@u:a with c{k: ["a", ]}
d:1#r@u:a with c{k: [1]}
d:1#r@u:a with c{k: [[]]}
d:1#r@u:a with c{k: [}
d:1#r@u:a with c{k: [, l: 1}
d:1#r@u:a with c{k: ]}
d:1#r@u:a with c{k: ["a"}
d:1#r@u:a with c{k: "a"]}
d:1#r@u:a with c{k: {}}
d:1#r@u:a with c{k: {a: 1}}
d:1#r@u:a, d:1#r@u:b
(d:1#r@u:a)`, "\n") {
		wantUnread(t, s, api.ErrTuple)
		if _, ok := parsedOf(s); ok {
			t.Errorf("the pattern takes %s", s)
		}
	}
	for _, s := range []string{"\n", "d:1#r@u:a\n", "\xef\xbb\xbfd:1#r@u:a", "d:1#r@u:a\x00", "d:1#r@u:a\twith\tc", "d:1#r@u:a with c{k: \"\xff\"}", "d:1#r@u:a with c{k: \"\n\"}", "d:1#r@u:a with c{k:\u00a01}"} {
		wantUnread(t, s, api.ErrTuple)
	}
}

// P10.4, P10.5: arguments that may not be have no text and no bytes.
func TestArgsThatMayNotBe(t *testing.T) {
	for _, l := range badArgs() {
		x := under(fact("d:1#r@u:a with c"), l...)
		wantNoText(t, x)
		wantNoBytes(t, x)
		readAsTheWordsSay(t, textOf(x))
		decodedAsTheWordsSay(t, bytesOf(x))
	}
}

// P10.4, P10.5: 16 arguments, and 17; names of 32 bytes and ids of 64, and one more.
func TestTextsAtTheLimits(t *testing.T) {
	for _, n := range []int{0, 1, 15, 16} {
		x := under(fact("d:1#r@u:a with c"), numbered(n)...)
		wantText(t, x, textOf(x))
		wantBytes(t, x, bytesOf(x))
	}
	n, id := times("n", 32), times("I", 64)
	long := n + ":" + id + "#" + n + "@" + n + ":" + id + "#" + n + " with " + n + "{" + n + ": 1}"
	wantText(t, fact(long), long)
	for i := range long {
		if i == 0 || strings.ContainsAny(long[i-1:i], ":#@{ ") && strings.ContainsAny(long[i:i+1], "nI") {
			wantUnread(t, long[:i]+long[i:i+1]+long[i:], api.ErrTuple)
		}
	}
}

// P10.4: a text of MaxLine bytes is none's, but not too long; one byte more is.
func TestTextsTooLong(t *testing.T) {
	for _, s := range []string{times("a", api.MaxLine), "d:1#r@u:a with c{k: \"" + times("x", api.MaxLine-23) + "\"}", "d:1#r@u:a with c{" + times("k: 1, ", api.MaxLine/6-4) + "k: 1}", times("\"", api.MaxLine), times(": ", api.MaxLine/2), "d:1#r@u:a with c{k: " + times("\\\"", 1<<19-20), "d:1#r@u:a with c{k: [" + times(`"", `, 1<<18-20)} {
		wantUnread(t, s, api.ErrTuple)
		s += times(" ", api.MaxLine-len(s))
		wantUnread(t, s, api.ErrTuple)
		wantUnread(t, s+" ", api.ErrLong)
		wantUnread(t, s+s, api.ErrLong)
	}
	ann := "d:1#r@u:a"
	wantUnread(t, ann+times(" ", api.MaxLine-len(ann)), api.ErrTuple)
	wantUnread(t, ann+times(" ", api.MaxLine-len(ann)+1), api.ErrLong)
}

// P10.7: the longest text that a tuple can have is far below MaxLine, and there and back it goes as any other.
func TestLongestText(t *testing.T) {
	full := make([]string, api.MaxItems)
	for i := range full {
		full[i] = times("\x80", api.MaxBytes)
	}
	n := times("n", 32)
	x := fact(n + ":" + times("I", 64) + "#" + n + "@" + n + ":" + times("I", 64) + "#" + n + " with " + n)
	for i := range api.MaxArgs {
		x.Args = append(x.Args, arg(times("n", 31)+string(rune('a'+i)), list(full...)))
	}
	s, e := tuples.Text(x)
	// Behind the key and the Cond: braces, and of each argument its name, a colon and a blank, the list's brackets, its texts with four signs a byte and quotes; and between each two a comma and a blank.
	want := 32*5 + 64*2 + len(":#@:# with {}") + 16*(32+2+2+32*(256*4+2)+31*2) + 15*2
	if e != api.OK || len(s) != want || len(s) > api.MaxLine {
		t.Errorf("%d bytes, %d, want %d", len(s), e, want)
	}
	wantText(t, x, textOf(x))
	wantBytes(t, x, bytesOf(x))
	x.Args = append(x.Args, arg("o", whole(1)))
	wantNoText(t, x)
	wantNoBytes(t, x)
	wantUnread(t, textOf(x), api.ErrTuple)
	wantUndecoded(t, bytesOf(x))
}
