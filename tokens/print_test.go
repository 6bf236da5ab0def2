package tokens_test

import (
	"slices"
	"strings"
	"testing"

	"latchkey/api"
	"latchkey/tokens"
)

func wantPrinted(t *testing.T, want string, l ...api.Token) {
	t.Helper()
	s, e := tokens.Print(l)
	if s != want || e != api.OK {
		t.Errorf("Print(%s) = %s, %v, want %s", show(told(l)), show(s), e, show(want))
	}
}

func wantNotPrinted(t *testing.T, want api.Errno, l ...api.Token) {
	t.Helper()
	s, e := tokens.Print(l)
	if s != "" || e != want {
		t.Errorf("Print(%s) = %s, %v, want error %v", show(told(l)), show(s), e, want)
	}
}

func times(n int, t api.Token) []api.Token { return slices.Repeat([]api.Token{t}, n) }

// P5.2, example 5.
func TestPrintExamples(t *testing.T) {
	wantPrinted(t, `doc : "\"\xc8" 7`, tok("n", "doc"), tok("m", ":"), tok("t", "\"\xc8"), tok("i", "7"))
	wantPrinted(t, "")
	wantPrinted(t, "", tok("e", ""))
	for _, x := range []api.Token{tok("n", "type"), tok("w", "doc"), tok("i", "1a"), tok("i", ""), tok("r", "1."), tok("m", "!"), tok("e", "x"), {}} {
		wantNotPrinted(t, api.ErrToken, x)
	}
	wantNotPrinted(t, api.ErrToken, tok("e", ""), tok("n", "a"))
	wantNotPrinted(t, api.ErrLong, times(32769, tok("n", "a"))...)
	wantPrinted(t, strings.TrimSuffix(strings.Repeat("a ", 32768), " "), times(32768, tok("n", "a"))...)
}

// P5.2: what may be printed, of every kind; places say nothing.
func TestPrintable(t *testing.T) {
	for _, x := range printables() {
		want := x.Text
		if x.Kind == api.TokText {
			want = `"` + x.Text + `"`
		}
		wantPrinted(t, want, x)
		for _, n := range []int{-1 << 63, -1, 0, 7, 1<<63 - 1} {
			x.Line, x.Col = n, n
			wantPrinted(t, want+" "+want, x, x, api.Token{Kind: api.TokEnd, Line: n, Col: -n})
		}
	}
}

// printables are tokens that may be printed anywhere, their texts without anything that is escaped.
func printables() []api.Token {
	all := []api.Token{tok("n", "a"), tok("n", "a_0"), tok("n", a(32)), tok("i", "0"), tok("i", "007"), tok("r", "1.5"), tok("r", "00.0e-00"), tok("r", "1.5e7"), tok("t", ""), tok("t", "a b"), tok("t", "//"), tok("t", "type"), tok("t", "1.")}
	for _, w := range words() {
		all = append(all, tok("w", w))
	}
	for _, m := range marks() {
		all = append(all, tok("m", m))
	}
	return all
}

// P5.2: what may not be printed, wherever it stands.
func TestNotPrintable(t *testing.T) {
	for _, x := range unprintables() {
		wantNotPrinted(t, api.ErrToken, x)
		wantNotPrinted(t, api.ErrToken, x, tok("e", ""))
		wantNotPrinted(t, api.ErrToken, tok("n", "a"), x)
		wantNotPrinted(t, api.ErrToken, tok("t", ""), x, tok("m", "+"), tok("e", ""))
	}
}

func unprintables() []api.Token {
	all := []api.Token{
		{Kind: -1}, {Kind: 0}, {Kind: 8}, {Kind: 0, Text: "a"}, {Kind: -1, Text: "a"}, {Kind: 8, Text: "a"}, {Kind: 1 << 62, Text: "a"}, {Kind: -1 << 63},
		tok("e", "a"), tok("e", " "), tok("e", "\x00"),
	}
	for kind, texts := range map[string][]string{
		"n": {"", "A", "_a", "0a", "a b", " a", "a ", "a//", "a-b", "é", "aé", "a\xff", "a\x00", a(33), a(1 << 20), "+", `"a"`, "7"},
		"w": {"", "a", "Type", "typ", "types", "type ", " in", "in//", "in\n", "ın"},
		"i": {"", "-1", "+1", " 1", "1 ", "1.5", "1.", "1e5", "1a", "1_0", "0x1", "a", "1//", "1+", "١", "1é"},
		"r": {"", "1", "1.", ".5", "1.5e", "1.5e-", "1.5e+5", "1.5E5", "-1.5", " 1.5", "1.5 ", "1.5.5", "1.5x", "1.5e5x", "1.5+", "nan", "inf", "1.5//"},
		"m": {"", "!", "//", "/ /", "+ ", " +", "++", "= =", "===", "<>", "=>", "=<", "&", ";", ".", "{", "a", "/=", "!=!", "\xff", "é", "\"", `""`, "// a"},
	} {
		for _, text := range texts {
			all = append(all, tok(kind, text))
		}
	}
	for _, w := range words() {
		all = append(all, tok("n", w), tok("m", w))
	}
	for _, x := range printables() {
		for kind := api.TokName; kind <= api.TokMark; kind++ {
			if kind != x.Kind && kind != api.TokText && x.Kind != api.TokText {
				all = append(all, api.Token{Kind: kind, Text: x.Text})
			}
		}
	}
	return all
}

// P5.2: TokEnd is the last of its list, or isn't printed.
func TestPrintEnd(t *testing.T) {
	end := tok("e", "")
	wantPrinted(t, "a", tok("n", "a"), end)
	wantPrinted(t, `""`, tok("t", ""), end)
	wantNotPrinted(t, api.ErrToken, end, end)
	wantNotPrinted(t, api.ErrToken, tok("n", "a"), end, end)
	wantNotPrinted(t, api.ErrToken, tok("n", "a"), end, tok("n", "a"))
	wantNotPrinted(t, api.ErrToken, end, tok("t", ""), end)
	wantNotPrinted(t, api.ErrToken, tok("n", "a"), tok("e", "a"))
}

// P5.2: how each byte of a text is written.
func TestPrintBytes(t *testing.T) {
	const digits = "0123456789abcdef"
	for b := range 256 {
		want := `\x` + digits[b/16:b/16+1] + digits[b%16:b%16+1]
		switch {
		case b == 10:
			want = `\n`
		case b == '"' || b == '\\':
			want = `\` + string(rune(b))
		case b >= 32 && b <= 126:
			want = string(rune(b))
		}
		one := string([]byte{byte(b)})
		wantPrinted(t, `"`+want+`"`, tok("t", one))
		wantPrinted(t, `"a`+want+want+`4"`, tok("t", "a"+one+one+"4"))
	}
	wantPrinted(t, `"\xc3\xa9\xe2\x82\xac\xef\xbf\xbd"`, tok("t", "é€\ufffd"))
}

// P5.2: texts of 65536 bytes and of one more, of every kind of token, with TokEnd behind them and without.
func TestPrintLong(t *testing.T) {
	end := tok("e", "")
	for _, full := range [][]api.Token{
		{tok("i", strings.Repeat("7", 65536))},
		{tok("r", "1."+strings.Repeat("7", 65534))},
		{tok("t", a(65534))},
		{tok("t", strings.Repeat("\n", 32767))},
		{tok("t", strings.Repeat("\"", 32766)+"ab")},
		{tok("t", strings.Repeat("\xff", 16383)+"ab")},
		append(times(32766, tok("m", "+")), tok("m", "=="), tok("i", "7")),
		append(times(32766, tok("m", "+")), tok("i", "7777")),
	} {
		s, e := tokens.Print(full)
		if len(s) != 65536 || e != api.OK {
			t.Errorf("Print(%s) has %d bytes, %v", show(told(full)), len(s), e)
		}
		if s2, e := tokens.Print(append(slices.Clone(full), end)); s2 != s || e != api.OK {
			t.Errorf("Print(%s) with TokEnd: %d bytes, %v", show(told(full)), len(s2), e)
		}
		more := slices.Clone(full)
		more[len(more)-1].Text += "7"
		wantNotPrinted(t, api.ErrLong, more...)
		wantNotPrinted(t, api.ErrLong, append(more, end)...)
	}
	wantNotPrinted(t, api.ErrLong, tok("t", a(1<<26)), tok("t", a(1<<26)))
	wantNotPrinted(t, api.ErrLong, tok("i", strings.Repeat("7", 65535)), tok("i", "7"))
	wantNotPrinted(t, api.ErrLong, tok("i", strings.Repeat("7", 65535)), tok("t", ""))
	wantNotPrinted(t, api.ErrLong, tok("i", strings.Repeat("7", 65534)), tok("t", ""))
	wantNotPrinted(t, api.ErrLong, tok("t", strings.Repeat("\x00", 65536)))
	wantNotPrinted(t, api.ErrLong, times(1<<20, tok("m", "/"))...)
}

// Errors of Print: ErrToken goes ahead of ErrLong, wherever both stand.
func TestPrintErrorOrder(t *testing.T) {
	long := tok("t", a(65536))
	wantNotPrinted(t, api.ErrToken, long, tok("m", "!"))
	wantNotPrinted(t, api.ErrToken, tok("m", "!"), long)
	wantNotPrinted(t, api.ErrToken, tok("n", a(65537)))
	wantNotPrinted(t, api.ErrToken, tok("i", strings.Repeat("7", 65537)+"a"))
	wantNotPrinted(t, api.ErrToken, append(times(40000, tok("n", "a")), tok("e", ""), tok("e", ""))...)
	wantNotPrinted(t, api.ErrLong, tok("i", strings.Repeat("7", 65537)))
	wantNotPrinted(t, api.ErrLong, long)
}
