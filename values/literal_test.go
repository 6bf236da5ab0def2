package values_test

import (
	"fmt"
	"math"
	"regexp"
	"strconv"
	"strings"
	"testing"

	"latchkey/api"
	"latchkey/reals"
	"latchkey/values"
)

func wantText(t *testing.T, v api.Value, want string) {
	t.Helper()
	if got, e := values.Text(v); got != want || e != api.OK {
		t.Errorf("Text(%s) = %q, %d, want %q", show(v), got, e, want)
	}
	if got, e := values.Parse(want); e != api.OK || !alike(got, v) && !(isNan(got) && isNan(v)) {
		t.Errorf("Parse(%q) = %s, %d, want %s", want, show(got), e, show(v))
	}
}

func wantNoLiteral(t *testing.T, s string) {
	t.Helper()
	if v, e := values.Parse(s); e != api.ErrValue || !alike(v, api.Value{}) || v.Texts != nil {
		t.Errorf("Parse(%q) = %s, %d", s, show(v), e)
	}
}

// P4.5, examples 5 and 6.
func TestLiterals(t *testing.T) {
	for _, c := range []struct {
		v    api.Value
		want string
	}{
		{text("a\"\n\x00~\x7f"), `"a\"\n\x00~\x7f"`}, {list("a", ""), `["a", ""]`}, {list(), "[]"}, {whole(math.MinInt64), "-9223372036854775808"}, {whole(math.MaxInt64), "9223372036854775807"},
		{boolean(true), "true"}, {boolean(false), "false"}, {whole(0), "0"}, {whole(-1), "-1"}, {whole(10), "10"}, {whole(-120), "-120"},
		{real32(nan()), "nan"}, {real32(inf()), "inf"}, {real32(-inf()), "-inf"}, {real32(0), "0.0"}, {real32(low()), "-0.0"}, {real32(1), "1.0"}, {real32(-1.5), "-1.5"}, {real32(1e10), "1.0e10"}, {real32(bits(1)), "1.0e-45"}, {real32(0.1), "0.1"},
		{text(""), `""`}, {text("\\"), `"\\"`}, {text("\\n"), `"\\n"`}, {text("\x1f \x7e\x80\xff"), `"\x1f ~\x80\xff"`}, {text("é"), `"\xc3\xa9"`}, {text("\t\r\n"), `"\x09\x0d\n"`}, {text("'"), `"'"`},
		{list(""), `[""]`}, {list("a", "b", "c"), `["a", "b", "c"]`}, {list(", ", "]", "[", "\""), `[", ", "]", "[", "\""]`}, {list("\n\x00"), `["\n\x00"]`},
	} {
		wantText(t, c.v, c.want)
	}
	for _, s := range []string{
		"-0", "+1", "9223372036854775808", "\"a", `["a",""]`, `"\t"`, "", "01", "1.50", `[ "a"]`, `"\x41"`,
		"-01", "--1", "1_0", "0x1", "-", "+", "-9223372036854775809", "1e5", "1 ", " 1", "1\n", "00", "+0", "٣",
		"True", "TRUE", "true ", "t", "false\x00", "1.", ".5", "01.5", "1.0e5", "100000.00", "+1.0", "1.0e+10", "1.0E10", "1.0e010", "NaN", "-nan", "+inf", "Inf", "infinity", "3.4028236e38", "16777217.0", "0.10", "-0", "1.0f",
		`"`, `a"`, `'a'`, "`a`", `"a"b`, `"a""`, `"a" `, ` "a"`, `"\"`, `"\\\"`, `"\`, `"\x"`, `"\x0"`, `"\x0`, `"\xg0"`, `"\x0g"`, `"\x7F"`, `"\x0a"`, `"\x0A"`, `"\x22"`, `"\x5c"`, `"\x20"`, `"\x7e"`, `"\X00"`, `"\N"`, `"\r"`, `"\0"`, `"\'"`, `"\a"`, `"\u0000"`, `"\377"`, `"\x+1"`, `"\x_1"`,
		"\"\n\"", "\"\x00\"", "\"\x1f\"", "\"\x7f\"", "\"\x80\"", "\"\xff\"", "\"é\"", "\"\t\"",
		"[", "]", "[[]]", "[ ]", "[] ", " []", "[]]", "[[]", `["a"`, `"a"]`, `["a" ]`, `["a", ]`, `["a",]`, `[, "a"]`, `[,]`, `["a"  , "b"]`, `["a",  "b"]`, `["a" "b"]`, `["a""b"]`, `["a" , "b"]`, `["a"], "b"]`, `[a]`, `[1]`, `[true]`, `["a", 1]`, `["a]`, `["a\"]`, `["\x41"]`, `["a", "b`, "[\"a\",\n\"b\"]", `["a", "b"], `, `["a", , "b"]`,
	} {
		wantNoLiteral(t, s)
	}
}

// P4.5: every byte in a text's literal, alone, between others and in a list; each has one way to be written.
func TestEveryByte(t *testing.T) {
	for b := range 256 {
		s := string([]byte{byte(b)})
		written := s
		switch {
		case b == '"':
			written = `\"`
		case b == '\\':
			written = `\\`
		case b == 10:
			written = `\n`
		case b < 32 || b > 126:
			written = fmt.Sprintf(`\x%02x`, b)
		}
		wantText(t, text(s), `"`+written+`"`)
		wantText(t, text("a"+s+s+"0"), `"a`+written+written+`0"`)
		wantText(t, list(s, "", s+"n"), `["`+written+`", "", "`+written+`n"]`)
		for _, other := range []string{s, `\` + s, fmt.Sprintf(`\x%02x`, b), fmt.Sprintf(`\x%02X`, b), fmt.Sprintf(`\%03o`, b), fmt.Sprintf(`\u%04x`, b)} {
			if other != written && other != `\n` && other != `\"` && other != `\\` {
				wantNoLiteral(t, `"`+other+`"`)
				wantNoLiteral(t, `["`+other+`"]`)
			}
		}
	}
}

// P4.5: the limits, however many bytes the literal has.
func TestLiteralLimits(t *testing.T) {
	long := strings.Repeat("\xff", 256)
	wantText(t, text(long), `"`+strings.Repeat(`\xff`, 256)+`"`)
	wantText(t, text(x(256)), `"`+x(256)+`"`)
	wantNoLiteral(t, `"`+x(257)+`"`)
	wantNoLiteral(t, `"`+strings.Repeat(`\xff`, 257)+`"`)
	wantNoLiteral(t, `["`+x(257)+`"]`)
	wantNoLiteral(t, `["a", "`+x(257)+`", "b"]`)
	full := make([]string, 32)
	for i := range full {
		full[i] = long
	}
	one := `"` + strings.Repeat(`\xff`, 256) + `"`
	wantText(t, list(full...), "["+one+strings.Repeat(", "+one, 31)+"]")
	wantText(t, list(make([]string, 32)...), `[""`+strings.Repeat(`, ""`, 31)+"]")
	wantNoLiteral(t, `[""`+strings.Repeat(`, ""`, 32)+"]")
}

// P4.5: what may not be has no literal.
func TestTextWrong(t *testing.T) {
	for _, v := range wrongs() {
		if s, e := values.Text(v); s != "" || e != api.ErrValue {
			t.Errorf("Text(%s) = %q, %d", show(v), s, e)
		}
	}
}

// P4.5: values that are the same have one literal; all that are no numbers are read as reals' one nan.
func TestSameLiteral(t *testing.T) {
	one, _ := reals.Parse("nan")
	for _, v := range nans() {
		if s, e := values.Text(v); s != "nan" || e != api.OK {
			t.Errorf("Text of nan %x = %q, %d", math.Float32bits(v.Real), s, e)
		}
	}
	if v, e := values.Parse("nan"); e != api.OK || math.Float32bits(v.Real) != math.Float32bits(one) {
		t.Errorf("Parse(nan) = %s, %d", show(v), e)
	}
	for _, v := range []api.Value{{Kind: api.ValInt, Int: 7, Real: low()}, {Kind: api.ValInt, Int: 7, Texts: []string{}}} {
		if s, e := values.Text(v); s != "7" || e != api.OK {
			t.Errorf("Text(%s) = %q, %d", show(v), s, e)
		}
	}
}

// What a literal is, said another way than the package says it: by patterns.
var (
	textPattern = `"(?:[ !#-\[\]-~]|\\["\\n]|\\x0[0-9b-f]|\\x1[0-9a-f]|\\x7f|\\x[89a-f][0-9a-f])*"`
	intLiteral  = regexp.MustCompile(`\A(?:0|-?[1-9][0-9]*)\z`)
	realLiteral = regexp.MustCompile(`\A(?:nan|-?inf|-?[0-9]+\.[0-9]+(?:e-?[0-9]+)?)\z`)
	textLiteral = regexp.MustCompile(`\A` + textPattern + `\z`)
	listLiteral = regexp.MustCompile(`\A\[(?:` + textPattern + `(?:, ` + textPattern + `)*)?\]\z`)
	oneText     = regexp.MustCompile(textPattern)
)

// patterned answers the value whose literal s is, by the patterns; of short texts alone, so no limit is asked.
func patterned(s string) (api.Value, bool) {
	switch {
	case s == "true" || s == "false":
		return boolean(s == "true"), true
	case intLiteral.MatchString(s):
		n, err := strconv.ParseInt(s, 10, 64)
		return whole(n), err == nil
	case realLiteral.MatchString(s):
		y, e := reals.Parse(s)
		return real32(y), e == api.OK && reals.Text(y) == s
	case textLiteral.MatchString(s):
		return text(unquoted(s)), true
	case listLiteral.MatchString(s):
		v := list()
		for _, one := range oneText.FindAllString(s, -1) {
			v.Texts = append(v.Texts, unquoted(one))
		}
		return v, true
	}
	return api.Value{}, false
}

// unquoted lets the language's own literals say what one of these means, of which they are some.
func unquoted(s string) string {
	u, err := strconv.Unquote(s)
	if err != nil {
		panic(err)
	}
	return u
}

// P4.5, P4.9: of all texts of some pieces Parse takes just those that the patterns take, and what it answers is written as the text.
func TestParseByPieces(t *testing.T) {
	sets := [][]string{
		{`"`, `\`, `n`, `x`, `0`, `a`, `f`, "\n", "\xff", " "},
		{`[`, `]`, `"`, `, `, `,`, ` `, `a`, `\"`},
		{`-`, `+`, `0`, `1`, `9`, `.`, `e`, ` `, `nan`, `inf`},
		{`true`, `false`, `[`, `]`, `""`, `"a"`, `, `, `1`, `1.0`, `nan`},
	}
	for _, pieces := range sets {
		eachText(pieces, 6, func(s string) {
			want, ok := patterned(s)
			got, e := values.Parse(s)
			if !ok {
				wantNoLiteral(t, s)
				return
			}
			if e != api.OK || !values.Same(got, want) {
				t.Fatalf("Parse(%q) = %s, %d, want %s", s, show(got), e, show(want))
			}
			if again, e := values.Text(got); again != s || e != api.OK {
				t.Fatalf("Text(%s) = %q, %d, want %q", show(got), again, e, s)
			}
		})
	}
}

// eachText hands over all texts of up to most of the pieces.
func eachText(pieces []string, most int, do func(string)) {
	var grow func(string, int)
	grow = func(s string, left int) {
		do(s)
		if left == 0 {
			return
		}
		for _, p := range pieces {
			grow(s+p, left-1)
		}
	}
	grow("", most)
}

// Any argument: long texts end in an answer.
func TestParseLong(t *testing.T) {
	for _, s := range []string{
		x(1 << 20), `"` + x(1<<20), `"` + x(1<<20) + `"`, "[" + strings.Repeat(`"", `, 1<<18) + `""]`, strings.Repeat("[", 1<<20), strings.Repeat("9", 1<<20), "0." + strings.Repeat("0", 1<<20) + "1", strings.Repeat(`"`, 1<<20), strings.Repeat(`\`, 1<<20), `"` + strings.Repeat(`\`, 1<<20), "-" + strings.Repeat("0", 1<<20),
	} {
		if v, e := values.Parse(s); e != api.ErrValue || v.Kind != 0 {
			t.Errorf("Parse of %q and so on = %d", s[:10], e)
		}
	}
}
