package tokens_test

import (
	"strings"
	"testing"

	"latchkey/api"
	"latchkey/tokens"
)

func wantTokens(t *testing.T, text, want string) {
	t.Helper()
	l, spot := tokens.Scan(text)
	if told(l) != want || spot != (api.Spot{}) {
		t.Errorf("Scan(%s) = %s, %v, want %s", show(text), show(told(l)), spot, show(want))
	}
}

func wantRefused(t *testing.T, text string, line, col int) {
	t.Helper()
	l, spot := tokens.Scan(text)
	if len(l) != 0 || spot != (api.Spot{Err: api.ErrToken, Line: line, Col: col}) {
		t.Errorf("Scan(%s) = %s, %v, want ErrToken at %d.%d", show(text), show(told(l)), spot, line, col)
	}
}

// P5.1, examples 1 to 3.
func TestScanExamples(t *testing.T) {
	for text, want := range map[string]string{
		"type doc // x\n[a:*]": "w type 1.1|n doc 1.6|m [ 2.1|n a 2.2|m : 2.3|m * 2.4|m ] 2.5|e  2.6",
		"":                     "e  1.1",
		" \n":                  "e  2.1",
		"12 1.50 0.5e-3 007":   "i 12 1.1|r 1.50 1.4|r 0.5e-3 1.9|i 007 1.16|e  1.19",
		"-1":                   "m - 1.1|i 1 1.2|e  1.3",
		"a<=b==c":              "n a 1.1|m <= 1.2|n b 1.4|m == 1.5|n c 1.7|e  1.8",
		"a= =b":                "n a 1.1|m = 1.2|m = 1.4|n b 1.5|e  1.6",
		"a/b//c":               "n a 1.1|m / 1.2|n b 1.3|e  1.7",
		`"a\"\n\x4A"`:          "t a\"\nJ 1.1|e  1.12",
		`""`:                   "t  1.1|e  1.3",
	} {
		wantTokens(t, text, want)
	}
}

// P5.1, example 4.
func TestRefusalExamples(t *testing.T) {
	for text, col := range map[string]int{
		"A": 1, "a!": 3, "!a": 2, "12a": 3, "1.": 3, "1.x": 3, "1.5e": 5, "1.5.2": 4, "1e5": 2, `"a`: 3, "\"a\n": 3,
		`"\q"`: 3, `"\xg"`: 4, a(33): 33, "a.b": 2, "a{": 2,
	} {
		wantRefused(t, text, 1, col)
	}
}

// P5.1: every mark, by itself and beside every other.
func TestMarks(t *testing.T) {
	for _, m := range marks() {
		wantTokens(t, m, "m "+m+" 1.1|e  1."+string(rune('1'+len(m))))
	}
	p := newPatterns()
	eachText(append(marks(), "!", "a"), 3, func(text string) { hold(t, p, text) })
	wantTokens(t, "===", "m == 1.1|m = 1.3|e  1.4")
	wantTokens(t, "<==>=", "m <= 1.1|m = 1.3|m >= 1.4|e  1.6")
	wantTokens(t, "=!=", "m = 1.1|m != 1.2|e  1.4")
	wantTokens(t, "/=", "m / 1.1|m = 1.2|e  1.3")
	wantTokens(t, "--", "m - 1.1|m - 1.2|e  1.3")
	wantRefused(t, "!", 1, 2)
	wantRefused(t, "!!=", 1, 2)
	wantRefused(t, "! =", 1, 2)
	wantRefused(t, "=!", 1, 3)
}

// P5.1: every byte by itself, right behind a name, a number and a mark, and within a text.
func TestEveryByte(t *testing.T) {
	p := newPatterns()
	for b := range 256 {
		for _, form := range []string{"?", "a?", "7?", "1.5?", "1.5e7?", "+?", "=?", "/?", `"?"`, `"\?`, `"\?"`, `"\x?`, `"\x?0"`, `"\x0?"`, "//?", "//?\n?", "a ? b", "1?", "1.?", "1.5e?", "1.5e-?", "!?", "\n?", a(31) + "?", a(32) + "?"} {
			hold(t, p, strings.ReplaceAll(form, "?", string([]byte{byte(b)})))
		}
	}
}

// P5.1: the words are no names, and what goes on behind one is a name.
func TestWords(t *testing.T) {
	for _, w := range words() {
		l, spot := tokens.Scan(w + " " + w + "_ " + w + "0 x" + w + " " + w)
		want := []api.Token{tok("w", w), tok("n", w+"_"), tok("n", w+"0"), tok("n", "x"+w), tok("w", w), tok("e", "")}
		if !sameTokens(l, want) || spot != (api.Spot{}) {
			t.Errorf("%s: %s, %v", w, told(l), spot)
		}
		wantRefused(t, strings.ToUpper(w), 1, 1)
		if short := w[:len(w)-1]; short != "in" {
			wantKind(t, short, api.TokName)
		}
	}
	for _, n := range []string{"a", "z", "a0", "a_", "a__9", "types", "relations", "ins", "e5", "x4", "n", "true1"} {
		wantKind(t, n, api.TokName)
	}
	for _, n := range []string{"_", "_a", "Type", "é"} {
		wantRefused(t, n, 1, 1)
	}
}

func wantKind(t *testing.T, text string, kind int) {
	t.Helper()
	l, spot := tokens.Scan(text)
	if len(l) != 2 || l[0].Kind != kind || l[0].Text != text || spot != (api.Spot{}) {
		t.Errorf("Scan(%s) = %s, %v, want kind %d", show(text), show(told(l)), spot, kind)
	}
}

// P5.1, Limits: rows of 32 and of 33 bytes, of letters, digits and _.
func TestLongRows(t *testing.T) {
	for _, end := range []string{"a", "z", "0", "9", "_"} {
		row := a(31) + end
		wantTokens(t, row, "n "+row+" 1.1|e  1.33")
		wantTokens(t, row+"+", "n "+row+" 1.1|m + 1.33|e  1.34")
		wantTokens(t, " "+row+"\n", "n "+row+" 1.2|e  2.1")
		wantRefused(t, row+"a", 1, 33)
		wantRefused(t, a(32)+end, 1, 33)
		wantRefused(t, "\n  "+a(32)+end+end, 2, 35)
	}
	wantRefused(t, a(32)+"A", 1, 33)
	wantRefused(t, a(65536), 1, 33)
	wantKind(t, strings.Repeat("7", 65536), api.TokInt)
	wantKind(t, "1."+strings.Repeat("7", 65534), api.TokReal)
}

// P5.1, Limits: texts of 65536 and of 65537 bytes.
func TestLongTexts(t *testing.T) {
	for _, unit := range []string{" ", "\n", "/", "a", "+", "\"", "\xff", "a+", "é"} {
		full := strings.Repeat(unit, 65536/len(unit))
		if _, spot := tokens.Scan(full); spot.Err == api.ErrLong {
			t.Errorf("65536 bytes of %q: ErrLong", unit)
		}
		l, spot := tokens.Scan(full + unit[:1])
		if len(l) != 0 || spot != (api.Spot{Err: api.ErrLong}) {
			t.Errorf("65537 bytes of %q: %s, %v", unit, show(told(l)), spot)
		}
	}
	wantTokens(t, strings.Repeat(" ", 65536), "e  1.65537")
	wantTokens(t, strings.Repeat("\n", 65536), "e  65537.1")
	wantTokens(t, `"`+a(65534)+`"`, "t "+a(65534)+" 1.1|e  1.65537")
	wantRefused(t, `"`+a(65535), 1, 65537)
	wantRefused(t, strings.Repeat("\n", 65535)+"!", 65536, 2)
	l, spot := tokens.Scan(strings.Repeat("+", 65536))
	if len(l) != 65537 || l[65535] != (api.Token{Kind: api.TokMark, Text: "+", Line: 1, Col: 65536}) || spot != (api.Spot{}) {
		t.Errorf("65536 marks: %d tokens, %v", len(l), spot)
	}
	if _, spot := tokens.Scan(strings.Repeat(" ", 1<<24)); spot != (api.Spot{Err: api.ErrLong}) {
		t.Errorf("2^24 blanks: %v", spot)
	}
}

// P5.1: blanks of all four kinds; no others.
func TestBlanks(t *testing.T) {
	wantTokens(t, " \t\r\n a\tb\rc\nd ", "n a 2.2|n b 2.4|n c 2.6|n d 3.1|e  3.3")
	wantTokens(t, "\r\n\r\n", "e  3.1")
	wantTokens(t, "\ra", "n a 1.2|e  1.3")
	for _, s := range []string{"\v", "\f", "\x00", "\x7f", "\x85", "\xa0", "\u00a0", "\u2028", "\ufeff", "\u3000"} {
		wantRefused(t, s, 1, 1)
		wantRefused(t, "a"+s, 1, 2)
		wantRefused(t, "a "+s+"b", 1, 3)
	}
}

// P5.1: remarks with and without a line's end, with any bytes, and the mark / beside them.
func TestRemarks(t *testing.T) {
	wantTokens(t, "//", "e  1.3")
	wantTokens(t, "//\n", "e  2.1")
	wantTokens(t, "// \"'{}!$ \x00\xff\xc3é\r\t a\nb// c", "n b 2.1|e  2.6")
	wantTokens(t, "a// b\n// c\n\n//\n d", "n a 1.1|n d 5.2|e  5.3")
	wantTokens(t, "//\xff\xc3\na", "n a 2.1|e  2.2")
	wantTokens(t, "//\xe2\x80\na", "n a 2.1|e  2.2")
	wantTokens(t, "//é", "e  1.5")
	wantTokens(t, "/// a\nb", "n b 2.1|e  2.2")
	wantTokens(t, "a ///", "n a 1.1|e  1.6")
	wantTokens(t, "/ // a", "m / 1.1|e  1.7")
	wantTokens(t, "/\n// a", "m / 1.1|e  2.5")
	wantTokens(t, "/ /", "m / 1.1|m / 1.3|e  1.4")
	wantTokens(t, "/", "m / 1.1|e  1.2")
	wantTokens(t, "\"//\"// \"", "t // 1.1|e  1.9")
	wantTokens(t, "7//7\r8\n9", "i 7 1.1|i 9 2.1|e  2.2")
	wantTokens(t, "=//=\n=", "m = 1.1|m = 2.1|e  2.2")
	wantRefused(t, "// a\n{", 2, 1)
	wantRefused(t, "!//", 1, 2)
	wantRefused(t, "\"//\n\"", 1, 4)
}

// P5.1: numbers, whole, real and broken off.
func TestNumbers(t *testing.T) {
	for _, s := range []string{"0", "9", "00", "007", "18446744073709551616"} {
		wantKind(t, s, api.TokInt)
	}
	for _, s := range []string{"0.0", "00.00", "1.5", "1.5e3", "1.5e-3", "1.5e00", "1.5e-00", "0.0e999999", "123.456e-789"} {
		wantKind(t, s, api.TokReal)
	}
	for text, col := range map[string]int{
		"1.": 3, "1. 5": 3, "1..5": 3, "1.e5": 3, "1._": 3, "1.-5": 3, "1.5e": 5, "1.5e ": 5, "1.5e+5": 5, "1.5ee": 5, "1.5e.5": 5, "1.5e_": 5,
		"1.5e-": 6, "1.5e--5": 6, "1.5e-x": 6, "1.5e- 5": 6, "1.5e5e": 6, "1.5e5x": 6, "1.5e5_": 6, "1.5e5.": 6, "1.5e-5.5": 7, "1.5x": 4, "1.5_": 4, "1.5E5": 4, "1.5.": 4,
		"1e": 2, "1e-5": 2, "1x": 2, "1_": 2, "1_000": 2, "0x10": 2, ".5": 1, "1é": 2, "1\xff": 2, "1.é": 3, "1.5eé": 5, "1.5e-\"": 6,
	} {
		wantRefused(t, text, 1, col)
	}
	wantTokens(t, "1.5-2", "r 1.5 1.1|m - 1.4|i 2 1.5|e  1.6")
	wantTokens(t, "1.5e5-2", "r 1.5e5 1.1|m - 1.6|i 2 1.7|e  1.8")
	wantTokens(t, "1-2", "i 1 1.1|m - 1.2|i 2 1.3|e  1.4")
	wantTokens(t, "1\"a\"2", "i 1 1.1|t a 1.2|i 2 1.5|e  1.6")
	wantTokens(t, "1//.5", "i 1 1.1|e  1.6")
	wantTokens(t, "1 5", "i 1 1.1|i 5 1.3|e  1.4")
	p := newPatterns()
	eachText([]string{"0", "7", ".", "e", "-", "a", "_", " "}, 5, func(text string) { hold(t, p, text) })
}

// P5.1: bytes and escapes of texts.
func TestQuoted(t *testing.T) {
	for text, want := range map[string]string{
		`"a"`: "a", `"\\"`: `\`, `"\\\""`: `\"`, `"\n"`: "\n", `"\x00"`: "\x00", `"\xff"`: "\xff", `"\xFf"`: "\xff", `"\xaB\xAb"`: "\xab\xab", `"\x0a"`: "\n",
		`"\x22"`: `"`, `"\x5c"`: `\`, `"\x5cn"`: `\n`, `"\x414"`: "A4", `"'"`: "'", `"//"`: "//", "\"\x7f\"": "\x7f", "\"\x80\xff\"": "\x80\xff", `"é"`: "é", `"aéb\né"`: "aéb\né",
		"\"\xc3\"": "\xc3", "\"\xc3\\n\xa9\"": "\xc3\n\xa9", "\"\ufffd\"": "\ufffd", "\"\xe2\x82\\x41\"": "\xe2\x82A", `" "`: " ", `"type"`: "type", `"\\n"`: `\n`, `"\\\\"`: `\\`, `"a\x4ab\x4Ac"`: "aJbJc",
	} {
		l, spot := tokens.Scan(text)
		if !sameTokens(l, []api.Token{tok("t", want), tok("e", "")}) || spot != (api.Spot{}) {
			t.Errorf("Scan(%s) = %s, %v, want %q", show(text), show(told(l)), spot, want)
		}
	}
	for text, col := range map[string]int{
		`"`: 2, `"\`: 3, `"\"`: 4, `"\x`: 4, `"\x4`: 5, `"\x4"`: 5, `"\xg4"`: 4, `"\x4g"`: 5, `"\x4G"`: 5, `"\x/0"`: 4, "\"\\x`0\"": 4, `"\x:0"`: 4, `"\x@0"`: 4, `"\X41"`: 3, `"\N"`: 3, `"\t"`: 3, `"\r"`: 3,
		`"\'"`: 3, `"\0"`: 3, `"\u0041"`: 3, "\"\\\n\"": 3, "\"\\é\"": 3, "\"\\xé\"": 4, "\"\\x4é\"": 5, "\"\\\xff\"": 3, "\"\x1f\"": 2, "\"\t\"": 2, "\"\r\"": 2, "\"\x00\"": 2, "\"é\n\"": 4, "\"\xff\x1f": 3, `"é`: 4, `""" `: 5,
	} {
		wantRefused(t, text, 1, col)
	}
	p := newPatterns()
	eachText([]string{`"`, `\`, "x", "n", "4", "F", "\n", "é", "\xc3"}, 5, func(text string) { hold(t, p, `"`+text) })
}

// P5.1: characters above 127 stand in texts and remarks alone, and count as their bytes there.
func TestAbove127(t *testing.T) {
	wantTokens(t, `"é" a`, "t é 1.1|n a 1.6|e  1.7")
	wantTokens(t, "\"\xff\" a", "t \xff 1.1|n a 1.5|e  1.6")
	wantTokens(t, "\"日本\"+// 日本\n+", "t 日本 1.1|m + 1.9|m + 2.1|e  2.2")
	for _, s := range []string{"é", "日", "\u2028", "\x80", "\xc3", "\xff", "\ufffd", "ª", "а", "１", "ａ", "𝒂"} {
		wantRefused(t, s, 1, 1)
		wantRefused(t, "ab"+s, 1, 3)
		wantRefused(t, "12"+s, 1, 3)
		wantRefused(t, "+ "+s+" a", 1, 3)
		wantRefused(t, "=\n"+s, 2, 1)
		wantRefused(t, "!"+s, 1, 2)
	}
}

// P5.1: the line and the column of every token, by the bytes ahead of it.
func TestPlaces(t *testing.T) {
	wantTokens(t, "a\nbc\n\n  d\n", "n a 1.1|n bc 2.1|n d 4.3|e  5.1")
	wantTokens(t, "\"\\n\"a\n\"\\n\" b", "t \n 1.1|n a 1.5|t \n 2.1|n b 2.6|e  2.7")
	wantTokens(t, "a // é\r\n\tb", "n a 1.1|n b 2.2|e  2.3")
	wantRefused(t, "a\n\nb ?", 3, 3)
	wantRefused(t, "a\nb!", 2, 3)
	wantRefused(t, "a\nb!\n", 2, 3)
	wantRefused(t, "a\n1.", 2, 3)
	wantRefused(t, "\n\"a\nb\"", 2, 3)
	wantRefused(t, "// a\n// b\n  12a", 3, 5)
}

// hold holds Scan against the patterns.
func hold(t *testing.T, p patterns, text string) {
	t.Helper()
	want, wantSpot := p.scan(text)
	l, spot := tokens.Scan(text)
	if told(l) != told(want) || spot != wantSpot {
		t.Errorf("Scan(%s) = %s, %v, want %s, %v", show(text), show(told(l)), spot, show(told(want)), wantSpot)
	}
}

// P5.1: all short texts of pieces of every class.
func TestScanAgainstPatterns(t *testing.T) {
	p := newPatterns()
	eachText([]string{"a", "_", "7", "1.5", "e", "in", "/", "=", "!", `"`, `\x`, " ", "\n", "é", "."}, 4, func(text string) { hold(t, p, text) })
	eachText([]string{a(31), "a", "7", "/", "\"", "\n", "\xff"}, 5, func(text string) { hold(t, p, text) })
}
