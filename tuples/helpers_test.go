package tuples_test

import (
	"fmt"
	"math"
	"math/rand"
	"slices"
	"strconv"
	"strings"
	"testing"

	"latchkey/api"
	"latchkey/schema"
	"latchkey/syntax"
	"latchkey/tuples"
)

// office is the schema of the chapter's examples.
const office = `type user
type team
  relation member: [user, team#member]
type doc
  relation owner: [user]
  relation viewer: [user:*, user with office, team#member with office]
cond office(at: int, on: text): at >= 9 and on == "mon"`

func model(t *testing.T, text string) *schema.Model {
	t.Helper()
	s, spot := syntax.Parse(text)
	m, fault := schema.Of(s)
	if spot.Err != api.OK || fault.Err != api.OK {
		t.Fatalf("%s: %+v, %+v", text, spot, fault)
	}
	return m
}

// fact is the tuple of a text, read by the patterns of the tests, not by the package.
func fact(s string) api.Tuple {
	x, ok := parsedOf(s)
	if !ok {
		panic(s)
	}
	return x
}

func boolean(x bool) api.Value { return api.Value{Kind: api.ValBool, Bool: x} }

func whole(n int64) api.Value { return api.Value{Kind: api.ValInt, Int: n} }

func real32(x float32) api.Value { return api.Value{Kind: api.ValReal, Real: x} }

func text(s string) api.Value { return api.Value{Kind: api.ValText, Text: s} }

func list(l ...string) api.Value { return api.Value{Kind: api.ValTexts, Texts: l} }

func arg(name string, v api.Value) api.Arg { return api.Arg{Name: name, Value: v} }

// under is the tuple with these arguments.
func under(x api.Tuple, args ...api.Arg) api.Tuple {
	x.Args = args
	return x
}

// numbered are n arguments by rising names.
func numbered(n int) []api.Arg {
	var l []api.Arg
	for i := range n {
		l = append(l, arg("n"+strconv.Itoa(100+i), whole(int64(i))))
	}
	return l
}

func nan() float32 { return math.Float32frombits(0x7fc00000) }

func inf() float32 { return math.Float32frombits(0x7f800000) }

// low is -0, which no literal says.
func low() float32 { return math.Float32frombits(1 << 31) }

func times(s string, n int) string { return strings.Repeat(s, n) }

// show tells what a test speaks of, no longer than one can read.
func show(x any) string {
	s := fmt.Sprintf("%+q", x)
	if t, ok := x.(api.Tuple); ok && mayBe(t) {
		s = textOf(t)
	}
	if len(s) > 300 {
		return s[:300] + ".."
	}
	return s
}

// alike holds tuples against one another bit by bit (so nan is like nan, of the same bits, and -0 isn't like 0), whatever is nil or empty.
func alike(a, b api.Tuple) bool {
	if a.Object != b.Object || a.Rel != b.Rel || a.Subject != b.Subject || a.Cond != b.Cond {
		return false
	}
	return slices.EqualFunc(a.Args, b.Args, func(x, y api.Arg) bool {
		v, w := x.Value, y.Value
		plain := v.Kind == w.Kind && v.Bool == w.Bool && v.Int == w.Int && v.Text == w.Text
		return x.Name == y.Name && plain && math.Float32bits(v.Real) == math.Float32bits(w.Real) && slices.Equal(v.Texts, w.Texts)
	})
}

func isZero(x api.Tuple) bool { return alike(x, api.Tuple{}) && x.Args == nil }

func wantFit(t *testing.T, m *schema.Model, x api.Tuple, want api.Errno) {
	t.Helper()
	if got := tuples.Check(m, x); got != want {
		t.Errorf("Check(%s) = %d, want %d", show(x), got, want)
	}
}

// wantText asks for a text and its reading, both ways.
func wantText(t *testing.T, x api.Tuple, want string) {
	t.Helper()
	if got, e := tuples.Text(x); got != want || e != api.OK {
		t.Errorf("Text(%s) = %s, %d, want %s", show(x), show(got), e, show(want))
	}
	if got, e := tuples.Parse(want); !tuples.Same(got, x) || e != api.OK {
		t.Errorf("Parse(%s) = %s, %d", show(want), show(got), e)
	}
}

func wantNoText(t *testing.T, x api.Tuple) {
	t.Helper()
	if got, e := tuples.Text(x); got != "" || e != api.ErrTuple {
		t.Errorf("Text(%s) = %s, %d", show(x), show(got), e)
	}
}

func wantUnread(t *testing.T, s string, want api.Errno) {
	t.Helper()
	if got, e := tuples.Parse(s); !isZero(got) || e != want {
		t.Errorf("Parse(%s) = %s, %d, want %d", show(s), show(got), e, want)
	}
}

// wantBytes asks for bytes and their reading, both ways.
func wantBytes(t *testing.T, x api.Tuple, want []byte) {
	t.Helper()
	if got, e := tuples.Encode(x); !slices.Equal(got, want) || e != api.OK {
		t.Errorf("Encode(%s) = % x, %d, want % x", show(x), got, e, want)
	}
	if got, e := tuples.Decode(want); !tuples.Same(got, x) || e != api.OK {
		t.Errorf("Decode(% x) = %s, %d", want, show(got), e)
	}
}

func wantNoBytes(t *testing.T, x api.Tuple) {
	t.Helper()
	if got, e := tuples.Encode(x); len(got) != 0 || e != api.ErrTuple {
		t.Errorf("Encode(%s) = % x, %d", show(x), got, e)
	}
}

func wantUndecoded(t *testing.T, b []byte) {
	t.Helper()
	if got, e := tuples.Decode(b); !isZero(got) || e != api.ErrTuple {
		t.Errorf("Decode(% x) = %s, %d", b, show(got), e)
	}
}

// readAsTheWordsSay holds a reading against the patterns'.
func readAsTheWordsSay(t *testing.T, s string) {
	t.Helper()
	want, ok := parsedOf(s)
	if !ok {
		wantUnread(t, s, api.ErrTuple)
		return
	}
	if got, e := tuples.Parse(s); !alike(got, want) || e != api.OK {
		t.Errorf("Parse(%s) = %s, %d, want %s", show(s), show(got), e, show(want))
	}
}

// decodedAsTheWordsSay holds a reading of bytes against that by hand.
func decodedAsTheWordsSay(t *testing.T, b []byte) {
	t.Helper()
	want, ok := decodedOf(b)
	if !ok {
		wantUndecoded(t, b)
		return
	}
	if got, e := tuples.Decode(b); !alike(got, want) || e != api.OK {
		t.Errorf("Decode(% x) = %s, %d, want %s", b, show(got), e, show(want))
	}
}

func seeded(n int64) *rand.Rand { return rand.New(rand.NewSource(n)) }
