package values_test

import (
	"cmp"
	"math"
	"math/big"
	"slices"
	"testing"

	"latchkey/api"
	"latchkey/values"
)

// P4.1, example 1, and the limits.
func TestCheck(t *testing.T) {
	for _, v := range append(samples(), whole(-12), api.Value{Kind: api.ValBool, Real: low()}, text(x(256)), list(make([]string, 32)...)) {
		if e := values.Check(v); e != api.OK {
			t.Errorf("Check(%s) = %d", show(v), e)
		}
	}
	for _, v := range append(wrongs(), api.Value{Kind: api.ValInt, Int: 1, Text: "x"}, api.Value{Kind: api.ValBool, Real: nan()}) {
		if e := values.Check(v); e != api.ErrValue {
			t.Errorf("Check(%s) = %d", show(v), e)
		}
	}
}

// P4.1: what is zero beside the kind's own: a nought of either sign, and texts of which there are none.
func TestCheckZero(t *testing.T) {
	for kind := api.ValBool; kind <= api.ValTexts; kind++ {
		for _, v := range []api.Value{{Kind: kind}, {Kind: kind, Real: low()}, {Kind: kind, Texts: []string{}}, {Kind: kind, Texts: make([]string, 0, 40)}} {
			if e := values.Check(v); e != api.OK {
				t.Errorf("Check(%s) = %d", show(v), e)
			}
			if !values.Same(v, v) {
				t.Errorf("Same of %s and itself", show(v))
			}
		}
	}
}

// P4.1: the limits are of each text by itself, not of all of them.
func TestCheckLimits(t *testing.T) {
	for n := range 40 {
		l := make([]string, n)
		for i := range l {
			l[i] = x(256)
		}
		want := api.OK
		if n > api.MaxItems {
			want = api.ErrValue
		}
		if e := values.Check(list(l...)); e != want {
			t.Errorf("Check of %d texts = %d", n, e)
		}
		if n == 0 || n > api.MaxItems {
			continue
		}
		for _, i := range []int{0, n / 2, n - 1} {
			long := slices.Clone(l)
			long[i] += "x"
			if e := values.Check(list(long...)); e != api.ErrValue {
				t.Errorf("Check of %d texts, the one at %d too long = %d", n, i, e)
			}
		}
	}
}

// P4.2, example 2: a value is the same as what was made in the same way, and as nothing else.
func TestSame(t *testing.T) {
	again := samples()
	for i, a := range samples() {
		for j, b := range again {
			want := i == j || isNan(a) && isNan(b) || alike(a, b)
			if values.Same(a, b) != want {
				t.Errorf("Same(%s, %s) = %v", show(a), show(b), !want)
			}
		}
	}
	if values.Same(real32(0), real32(low())) || values.Same(whole(1), real32(1)) || values.Same(boolean(false), whole(0)) || values.Same(text(""), list()) || values.Same(text("a"), list("a")) {
		t.Error("Same of values that are not")
	}
}

// alike says whether two values have the same bits in all fields.
func alike(a, b api.Value) bool {
	return a.Kind == b.Kind && a.Bool == b.Bool && a.Int == b.Int && math.Float32bits(a.Real) == math.Float32bits(b.Real) && a.Text == b.Text && slices.Equal(a.Texts, b.Texts)
}

// P4.2: what isn't the kind's own says nothing, a nought of the other sign among it.
func TestSameZero(t *testing.T) {
	for kind := api.ValBool; kind <= api.ValTexts; kind++ {
		a, b := api.Value{Kind: kind}, api.Value{Kind: kind, Real: low()}
		if values.Same(a, b) != (kind != api.ValReal) || values.Same(b, a) != (kind != api.ValReal) {
			t.Errorf("Same of kind %d, its nought of either sign", kind)
		}
	}
}

// P4.2: what may not be is the same as nothing, itself neither.
func TestSameWrong(t *testing.T) {
	for _, v := range wrongs() {
		if values.Same(v, v) {
			t.Errorf("Same of %s and itself", show(v))
		}
		for _, w := range samples() {
			if values.Same(v, w) || values.Same(w, v) {
				t.Errorf("Same of %s and %s", show(v), show(w))
			}
		}
	}
}

// P4.3, example 3.
func TestCompareExamples(t *testing.T) {
	for _, c := range []struct {
		a, b api.Value
		want int
		ok   bool
	}{
		{whole(1), real32(1), 0, true}, {whole(9007199254740993), real32(9007199254740992), 1, true}, {real32(0), real32(low()), 0, true}, {real32(nan()), real32(nan()), 0, false},
		{whole(1), text("1"), 0, false}, {boolean(true), whole(1), 0, false}, {boolean(false), boolean(true), -1, true}, {text("a"), text("ab"), -1, true}, {list("b"), list("a", "c"), 1, true}, {list(), list(""), -1, true},
		{boolean(true), boolean(true), 0, true}, {whole(math.MinInt64), whole(math.MaxInt64), -1, true}, {real32(-inf()), whole(math.MinInt64), -1, true}, {real32(inf()), whole(math.MaxInt64), 1, true}, {real32(-1 << 63), whole(math.MinInt64), 0, true}, {real32(1 << 63), whole(math.MaxInt64), 1, true}, {real32(16777216), whole(16777217), -1, true}, {real32(-inf()), real32(inf()), -1, true}, {real32(inf()), real32(inf()), 0, true}, {real32(low()), whole(0), 0, true},
		{real32(nan()), whole(0), 0, false}, {real32(nan()), real32(0), 0, false}, {text("a"), text("\xff"), -1, true}, {text(""), text("\x00"), -1, true}, {text("b"), text("aa"), 1, true}, {list("a", "b"), list("a"), 1, true}, {list("a"), list("ab"), -1, true}, {list("a", "z"), list("ab"), -1, true}, {text(""), list(), 0, false}, {text("a"), list("a"), 0, false}, {boolean(false), real32(0), 0, false}, {real32(1), text("1.0"), 0, false},
	} {
		wantCompare(t, c.a, c.b, c.want, c.ok)
		wantCompare(t, c.b, c.a, -c.want, c.ok)
	}
}

func wantCompare(t *testing.T, a, b api.Value, want int, ok bool) {
	t.Helper()
	if got, held := values.Compare(a, b); got != want || held != ok {
		t.Errorf("Compare(%s, %s) = %d, %v, want %d, %v", show(a), show(b), got, held, want, ok)
	}
}

// P4.3: all pairs, numbers against the library of great numbers, texts and lists byte by byte.
func TestCompare(t *testing.T) {
	for _, a := range samples() {
		for _, b := range samples() {
			want, ok := order(a, b)
			wantCompare(t, a, b, want, ok)
		}
	}
}

// order says by other means how a stands to b.
func order(a, b api.Value) (int, bool) {
	number := func(v api.Value) bool { return v.Kind == api.ValInt || v.Kind == api.ValReal }
	switch {
	case isNan(a) || isNan(b):
		return 0, false
	case number(a) && number(b):
		return great(a).Cmp(great(b)), true
	case a.Kind != b.Kind:
		return 0, false
	case a.Kind == api.ValBool:
		return map[[2]bool]int{{false, true}: -1, {true, false}: 1}[[2]bool{a.Bool, b.Bool}], true
	case a.Kind == api.ValText:
		return orderTexts(a.Text, b.Text), true
	}
	for i := range min(len(a.Texts), len(b.Texts)) {
		if a.Texts[i] != b.Texts[i] {
			return orderTexts(a.Texts[i], b.Texts[i]), true
		}
	}
	return cmp.Compare(len(a.Texts), len(b.Texts)), true
}

func orderTexts(a, b string) int {
	for i := range min(len(a), len(b)) {
		if a[i] != b[i] {
			return cmp.Compare(a[i], b[i])
		}
	}
	return cmp.Compare(len(a), len(b))
}

// great answers a number, exactly; the infinite ones too.
func great(v api.Value) *big.Float {
	if v.Kind == api.ValInt {
		return new(big.Float).SetPrec(64).SetInt64(v.Int)
	}
	return big.NewFloat(float64(v.Real))
}

// P4.3: what may not be can't be compared.
func TestCompareWrong(t *testing.T) {
	for _, v := range wrongs() {
		wantCompare(t, v, v, 0, false)
		for _, w := range fewSamples() {
			wantCompare(t, v, w, 0, false)
			wantCompare(t, w, v, 0, false)
		}
	}
}

func wantIn(t *testing.T, x, l api.Value, want, sure bool) {
	t.Helper()
	if got, held := values.In(x, l); got != want || held != sure {
		t.Errorf("In(%s, %s) = %v, %v, want %v, %v", show(x), show(l), got, held, want, sure)
	}
}

// P4.4, example 4.
func TestIn(t *testing.T) {
	wantIn(t, text("a"), list("b", "a"), true, true)
	wantIn(t, text("c"), list("b"), false, true)
	wantIn(t, whole(1), list("1"), false, false)
	wantIn(t, text(""), list(), false, true)
	wantIn(t, text(""), list(""), true, true)
	wantIn(t, text("a"), list("ab", "", "A"), false, true)
	wantIn(t, text(x(256)), list(append(make([]string, 31), x(256))...), true, true)
	wantIn(t, text("a"), text("a"), false, false)
	wantIn(t, list("a"), list("a"), false, false)
	wantIn(t, list("a"), text("a"), false, false)
}

// P4.4: only a text and a list that may be are asked.
func TestInKinds(t *testing.T) {
	for _, a := range samples() {
		for _, l := range samples() {
			sure := a.Kind == api.ValText && l.Kind == api.ValTexts
			wantIn(t, a, l, sure && slices.Contains(l.Texts, a.Text), sure)
		}
	}
	wantIn(t, text(x(257)), list(x(257)), false, false)
	wantIn(t, text("a"), list(append(make([]string, 32), "a")...), false, false)
	wantIn(t, text("a"), list("a", x(257)), false, false)
	for _, v := range wrongs() {
		wantIn(t, v, list("x"), false, false)
		wantIn(t, text("x"), v, false, false)
	}
}
