package tokens_test

import (
	"slices"
	"strings"
	"testing"

	"latchkey/api"
	"latchkey/tokens"
)

// P5.3: what is printed is scanned as the same, in the line 1, each token at the place where it was printed.
func TestPrintedIsScanned(t *testing.T) {
	all := printables()
	for b := range 256 {
		all = append(all, tok("t", string([]byte{byte(b)})), tok("t", string([]byte{'a', byte(b), byte(b), '4'})))
	}
	for _, x := range all {
		backAndForth(t, []api.Token{x})
		for _, y := range printables() {
			backAndForth(t, []api.Token{x, y})
			backAndForth(t, []api.Token{x, y, tok("e", "")})
		}
	}
	backAndForth(t, nil)
	backAndForth(t, all)
}

func backAndForth(t *testing.T, l []api.Token) {
	t.Helper()
	s, e := tokens.Print(l)
	got, spot := tokens.Scan(s)
	want := slices.Clone(l)
	if len(l) == 0 || l[len(l)-1].Kind != api.TokEnd {
		want = append(want, tok("e", ""))
	}
	if e != api.OK || spot != (api.Spot{}) || !sameTokens(got, want) {
		t.Errorf("Print(%s) = %s, %v; scanned: %s, %v", show(told(l)), show(s), e, show(told(got)), spot)
	}
	for _, x := range got {
		if x.Line != 1 {
			t.Errorf("Print(%s) = %s: not in line 1: %s", show(told(l)), show(s), show(told(got)))
		}
	}
}

// P5.3: what Scan answers may be printed and is scanned as the same; what is printed of that is the same text.
func TestScannedIsPrinted(t *testing.T) {
	eachText([]string{"a", "in", "7", "1.5e-3", "/", "=", "!=", `"\n é"`, `"\xC3"`, " ", "\n", "// x\n"}, 4, func(text string) {
		l, spot := tokens.Scan(text)
		if spot != (api.Spot{}) {
			return
		}
		s, e := tokens.Print(l)
		again, spot := tokens.Scan(s)
		s2, e2 := tokens.Print(again)
		if e != api.OK || e2 != api.OK || spot != (api.Spot{}) || !sameTokens(l, again) || s2 != s {
			t.Errorf("%q is printed as %q, %v, and scanned as %s, %v", text, s, e, told(again), spot)
		}
	})
	// A text within the limit whose tokens are too long to print.
	l, _ := tokens.Scan(strings.Repeat("+", 65536))
	if s, e := tokens.Print(l); s != "" || e != api.ErrLong {
		t.Errorf("65536 marks: %d bytes, %v", len(s), e)
	}
}

// P5.3: other blanks and remarks between pieces change nothing but places.
func TestGaps(t *testing.T) {
	pieces := []string{"a", "in", "7", "1.5", "/", "=", `" //"`, "!=", "-"}
	gaps := []string{" ", "\t", "\r\n", "// x\n", " // \"\n", "\n//\n//\n", "   ", "// é\xff \x00\n "}
	for _, x := range pieces {
		for _, y := range pieces {
			want, _ := tokens.Scan(x + " " + y)
			if len(want) != 3 {
				t.Fatalf("%q and %q: %s", x, y, told(want))
			}
			for _, gap := range gaps {
				if x == "/" && strings.HasPrefix(gap, "//") {
					continue
				}
				for _, other := range gaps {
					text := other + x + gap + y + " " + other
					if l, spot := tokens.Scan(text); spot != (api.Spot{}) || !sameTokens(l, want) {
						t.Errorf("Scan(%q) = %s, %v, want %s", text, told(l), spot, told(want))
					}
				}
			}
		}
	}
	wantTokens(t, "/// x\n7", "i 7 2.1|e  2.2")
}

// P5.3: of a text that is refused below its length, no text that goes the same way up to there, the refused byte among it, may be.
func TestRefusedStays(t *testing.T) {
	ends := []string{"", "a", "0", `"`, "=", "\n", " //", "\xff", `\`, "x4"}
	eachText([]string{"a", "7", ".", "e", "!", `"`, `\`, "x", "\n", "é", "A"}, 4, func(text string) {
		_, spot := tokens.Scan(text)
		k := placeOf(text, spot)
		if spot.Err != api.ErrToken || k == len(text) {
			return
		}
		for _, end := range ends {
			for _, tail := range []string{text[k+1:] + end, end} {
				l, again := tokens.Scan(text[:k+1] + tail)
				if len(l) != 0 || again != spot {
					t.Errorf("%q: %v, but with %q behind its place: %s, %v", text, spot, tail, told(l), again)
				}
			}
		}
	})
}

// placeOf is the place that a line and a column say.
func placeOf(text string, s api.Spot) int {
	k := 0
	for line := 1; line < s.Line; line++ {
		k += strings.IndexByte(text[k:], '\n') + 1
	}
	return k + s.Col - 1
}
