package values_test

import (
	"fmt"
	"math"
	"strconv"
	"strings"

	"latchkey/api"
)

func boolean(x bool) api.Value { return api.Value{Kind: api.ValBool, Bool: x} }

func whole(n int64) api.Value { return api.Value{Kind: api.ValInt, Int: n} }

func real32(x float32) api.Value { return api.Value{Kind: api.ValReal, Real: x} }

func text(s string) api.Value { return api.Value{Kind: api.ValText, Text: s} }

func list(l ...string) api.Value { return api.Value{Kind: api.ValTexts, Texts: l} }

func arg(name string, v api.Value) api.Arg { return api.Arg{Name: name, Value: v} }

func bits(b uint32) float32 { return math.Float32frombits(b) }

func nan() float32 { return bits(0x7fc00000) }

func inf() float32 { return bits(0x7f800000) }

// low is -0, which no literal says.
func low() float32 { return bits(1 << 31) }

func x(n int) string { return strings.Repeat("x", n) }

// show tells what a test speaks of, no longer than one can read.
func show(v any) string {
	s := fmt.Sprintf("%#v", v)
	if len(s) > 200 {
		return s[:200] + ".."
	}
	return s
}

func isNan(v api.Value) bool { return v.Kind == api.ValReal && v.Real != v.Real }

func bools() []api.Value { return []api.Value{boolean(false), boolean(true)} }

// wholes lie at the ends of the whole numbers, about 0, and about reals that can't hold their neighbours.
func wholes() []int64 {
	all := []int64{0, math.MinInt64, math.MinInt64 + 1, math.MaxInt64, math.MaxInt64 - 1}
	for s := range 63 {
		for d := int64(-1); d <= 1; d++ {
			all = append(all, 1<<s+d, -(1<<s)+d)
		}
	}
	return append(all, 9, 10, 99, 100, -9, -10, 300, 16777217, 9007199254740993)
}

func numbers() []float32 {
	all := []float32{0, low(), inf(), -inf(), bits(1), -bits(1), math.MaxFloat32, -math.MaxFloat32, 0.1, -0.1, 0.5, -0.5, 1.5, -1.5, 100, 1e9, 1e10, 1e-4, 1e-5, bits(0x5effffff), bits(0x5f000001), bits(0xdf000001)}
	for s := range 66 {
		all = append(all, float32(math.Ldexp(1, s)), float32(math.Ldexp(-1, s)))
	}
	return append(all, 16777216, 16777218, 8388607.5)
}

func nans() []api.Value {
	var all []api.Value
	for _, b := range []uint32{0x7f800001, 0x7fbfffff, 0x7fc00000, 0x7fffffff, 0xff800001, 0xffc00000, 0xffffffff} {
		all = append(all, real32(bits(b)))
	}
	return all
}

func texts() []string {
	all := []string{"", "\x00", "\x01", "\n", "\r", "\t", " ", "\"", "\\", "\\n", "~", "\x7f", "\x80", "\xff", "a", "ab", "aa", "b", "A", "é", "a\"b\\c\nd", ", ", "[]", "[\"a\"]", "true", "1", x(255), x(256), strings.Repeat("\xff", 256), x(255) + "\x00"}
	return all
}

func lists() [][]string {
	many := make([]string, 32)
	full := make([]string, 32)
	for i := range full {
		full[i] = strings.Repeat(string([]byte{byte('a' + i)}), 256)
	}
	return [][]string{nil, {}, {""}, {"", ""}, {"a"}, {"a", ""}, {"a", "b"}, {"b"}, {"a", "c"}, {"ab"}, {"a", "a"}, {"b", "a"}, {"a\"", "\\", ", "}, {"]"}, {"[", "\", \""}, {"\xff", "\x00"}, many, many[:31], full, {x(256)}}
}

// samples are values that may be, of all kinds.
func samples() []api.Value {
	all := append(bools(), nans()...)
	for _, n := range wholes() {
		all = append(all, whole(n))
	}
	for _, y := range numbers() {
		all = append(all, real32(y))
	}
	for _, s := range texts() {
		all = append(all, text(s))
	}
	for _, l := range lists() {
		all = append(all, list(l...))
	}
	return all
}

// fewSamples are few enough to hold three of them against each other.
func fewSamples() []api.Value {
	return []api.Value{
		boolean(false), boolean(true), whole(math.MinInt64), whole(-1), whole(0), whole(1), whole(16777216), whole(16777217), whole(math.MaxInt64),
		real32(nan()), real32(-inf()), real32(-1 << 63), real32(-1.5), real32(-1), real32(low()), real32(0), real32(0.5), real32(1), real32(16777216), real32(16777218), real32(1 << 63), real32(inf()),
		text(""), text("\x00"), text("a"), text("aa"), text("b"), text("\xff"), list(), list(""), list("", ""), list("a"), list("a", "b"), list("aa"), list("b"), list("\xff"),
	}
}

// wrongs are values that may not be: kinds that are none, fields beside the kind's own, and what is too long.
func wrongs() []api.Value {
	all := []api.Value{
		text(x(257)), text(x(1 << 20)), list(x(257)), list("a", x(257), "b"), list(make([]string, 33)...), list(make([]string, 1<<16)...),
		{Kind: api.ValBool, Text: x(257)}, {Kind: api.ValText, Text: x(257), Bool: true},
	}
	for _, k := range []int{0, -1, 6, 7, 255, 256 + api.ValBool, 256 + api.ValTexts, 1<<32 + api.ValInt, math.MinInt, math.MaxInt} {
		all = append(all, api.Value{Kind: k}, api.Value{Kind: k, Bool: true, Int: 1, Real: 1, Text: "x", Texts: []string{"x"}})
	}
	for kind := api.ValBool; kind <= api.ValTexts; kind++ {
		all = append(all, strangers(kind)...)
	}
	return all
}

// strangers are values of the kind with one field that isn't the kind's own and isn't zero.
func strangers(kind int) []api.Value {
	var all []api.Value
	for _, y := range []struct {
		own int
		api.Value
	}{
		{api.ValBool, api.Value{Bool: true}},
		{api.ValInt, api.Value{Int: 1}}, {api.ValInt, api.Value{Int: math.MinInt64}}, {api.ValInt, api.Value{Int: 1 << 32}},
		{api.ValReal, api.Value{Real: 1}}, {api.ValReal, api.Value{Real: nan()}}, {api.ValReal, api.Value{Real: bits(1)}}, {api.ValReal, api.Value{Real: -inf()}},
		{api.ValText, api.Value{Text: "x"}}, {api.ValText, api.Value{Text: "\x00"}},
		{api.ValTexts, api.Value{Texts: []string{""}}}, {api.ValTexts, api.Value{Texts: make([]string, 33)}},
	} {
		if y.own != kind {
			v := y.Value
			v.Kind = kind
			all = append(all, v)
		}
	}
	return all
}

// args answers as many arguments, by rising names.
func args(n int) []api.Arg {
	var all []api.Arg
	for i := range n {
		all = append(all, arg("n"+strconv.Itoa(100+i), whole(int64(i))))
	}
	return all
}
