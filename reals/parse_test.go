package reals_test

import (
	"math"
	"math/big"
	"regexp"
	"strconv"
	"strings"
	"testing"

	"latchkey/api"
	"latchkey/reals"
)

func wantParse(t *testing.T, s string, want float32) {
	t.Helper()
	got, e := reals.Parse(s)
	if e != api.OK || !is(got, want) {
		t.Errorf("Parse(%s) = %s, %d, want %s", short(s), name(got), e, name(want))
	}
}

func wantNone(t *testing.T, s string) {
	t.Helper()
	got, e := reals.Parse(s)
	if e != api.ErrReal || !is(got, 0) {
		t.Errorf("Parse(%s) = %s, %d, want 0 and ErrReal", short(s), name(got), e)
	}
}

func short(s string) string {
	if len(s) > 90 {
		return strconv.Quote(s[:40]) + ".." + strconv.Itoa(len(s)) + ".." + strconv.Quote(s[len(s)-40:])
	}
	return strconv.Quote(s)
}

// P3.1, example 2, and the words.
func TestParse(t *testing.T) {
	for _, c := range []struct {
		s    string
		want float32
	}{
		{"16777217.0", 16777216}, {"16777219.0", 16777220}, {"3.4028235e38", math.MaxFloat32}, {"7.1e-46", least()}, {"7.0e-46", 0}, {"-1.0e-400", low()}, {"007.50", 7.5}, {"1.0e-0", 1},
		{"nan", nan()}, {"inf", inf()}, {"-inf", -inf()},
		{"0.0", 0}, {"-0.0", low()}, {"000.000", 0}, {"-000.000e5", low()}, {"0.0e-7", 0}, {"-7.0e-46", low()}, {"-7.1e-46", -least()}, {"-3.4028235e38", -math.MaxFloat32},
		{"1.0", 1}, {"1.0e0", 1}, {"1.0e00", 1}, {"1.0e-00", 1}, {"1.0e007", 1e7}, {"1.0e-007", 1e-7}, {"12.5e1", 125}, {"125.0e-1", 12.5}, {"0.00125e4", 12.5}, {"-12.5", -12.5}, {"9.9", 9.9},
		{"0.1", 0.1}, {"0.10", 0.1}, {"00.1", 0.1}, {"3.0", 3}, {"100000000000000000000.0", 1e20},
	} {
		wantParse(t, c.s, c.want)
	}
}

// P3.1: what is no text of a real, and what would be infinite.
func TestParseRefuses(t *testing.T) {
	for _, s := range []string{
		"3.4028236e38", "", "1", ".5", "1.", "+1.0", "1.0e+5", "1.0E5", "1.0e", "-nan", "Inf", "1.0 ",
		"-3.4028236e38", "1.0e39", "-1.0e39", "340282356779733661637539395458142568448.0", "1.0e400",
		" 1.0", "\t1.0", "1.0\n", "1 .0", "-", "--1.0", "-+1.0", "- 1.0", "+inf", "--inf", "-inf ", "INF", "infinity", "Infinity", "-infinity", "NaN", "NAN", "nan ", "nan.0", "inf.0", "+nan", "--nan", "nan0", "nane5", "infe5",
		".", "-.", ".e5", "1e5", "-1", "-1.", "-.5", "1.e5", ".0e5", "1..0", "1.0.0", "1.0e5.0", "1.0e-", "1.0e--5", "1.0e5-", "1.0e5e5", "1.0ee5", "1.0e 5", "1.0e5 ", "e", "e5", "-e5", "1.0f", "1.0p5",
		"1_0.0", "1.0_0", "1.0e1_0", "0x1.0", "0x1.0p0", "1,0", "1.0-", "1.-0", "1.0d5", "\x001.0", "1.0\x00", "1.\xff", "١.0", "1.٠", "−1.0", "1．0", "/.0", ":.0", "0./", "0.:", "1.0e/", "1.0e:",
	} {
		wantNone(t, s)
	}
}

// P3.1: every short text over the letters of a text of a real, and some more, is taken just if the form is right.
func TestParseForm(t *testing.T) {
	form := regexp.MustCompile(`^(nan|-?inf|-?[0-9]+\.[0-9]+(e-?[0-9]+)?)$`)
	var walk func(s string, left int)
	walk = func(s string, left int) {
		if _, e := reals.Parse(s); (e == api.OK) != form.MatchString(s) || e != api.OK && e != api.ErrReal {
			t.Errorf("Parse(%q): error %d", s, e)
		}
		if left > 0 {
			for _, c := range "-.e09+ainf" {
				walk(s+string(c), left-1)
			}
		}
	}
	walk("", 5)
	for _, good := range []string{"-12.5e-3", "nan", "-inf"} {
		for i := range len(good) + 1 {
			for c := range 256 {
				more := good[:i] + string([]byte{byte(c)}) + good[i:]
				if _, e := reals.Parse(more); (e == api.OK) != form.MatchString(more) {
					t.Errorf("Parse(%q): error %d", more, e)
				}
			}
		}
	}
}

// exact is all of the digits of a number whose only divisors are two and five.
func exact(w *big.Rat) string {
	n, _ := w.FloatPrec()
	return w.FloatString(max(n, 1))
}

// wantNearest holds Parse against the library of great numbers, with and without a minus.
func wantNearest(t *testing.T, s string, w *big.Rat) {
	t.Helper()
	x := nearest(w)
	if isInf(x) {
		wantNone(t, s)
		wantNone(t, "-"+s)
		return
	}
	wantParse(t, s, x)
	wantParse(t, "-"+s, bits(math.Float32bits(x)|signBit))
}

// P3.1: halfway between two reals the even one is nearest; just beside that, be it by the last of a thousand digits, it is the one on that side.
func TestParseHalfway(t *testing.T) {
	tiny := ten(-1200)
	list := edgeBits()
	for _, r := range spread(400, 5) {
		list = append(list, uint32(r)%infBits)
	}
	for _, b := range list {
		if b >= infBits {
			continue
		}
		above := new(big.Rat).SetInt(new(big.Int).Lsh(big.NewInt(1), 128))
		if b+1 < infBits {
			above = worth(bits(b + 1))
		}
		half := new(big.Rat).Add(worth(bits(b)), above)
		half.Quo(half, big.NewRat(2, 1))
		if got := nearest(half); !is(got, bits(b+b&1)) {
			t.Fatalf("halfway behind %x the oracle says %s", b, name(got))
		}
		wantNearest(t, exact(half), half)
		up, down := new(big.Rat).Add(half, tiny), new(big.Rat).Sub(half, tiny)
		if !is(nearest(up), bits(b+1)) || !is(nearest(down), bits(b)) {
			t.Fatalf("beside halfway behind %x the oracle says %s, %s", b, name(nearest(up)), name(nearest(down)))
		}
		wantNearest(t, exact(up), up)
		wantNearest(t, exact(down), down)
		wantParse(t, exact(worth(bits(b))), bits(b))
	}
}

// P3.1: digits and powers of all lengths, against the library of great numbers.
func TestParseNearest(t *testing.T) {
	list := spread(12000, 7)
	for i := 0; i+2 < len(list); i += 3 {
		whole := strconv.FormatUint(list[i]>>(list[i+2]>>8%64), 10)
		part := strconv.FormatUint(list[i+1]>>(list[i+2]>>16%64), 10)
		s := strings.Repeat("0", int(list[i+2]%3)) + whole + "." + strings.Repeat("0", int(list[i+2]>>4%4)) + part + strings.Repeat("0", int(list[i+2]>>24%3))
		if k := int(list[i+2]>>32%150) - 85; k != 0 {
			s += "e" + strconv.Itoa(k)
		}
		w, ok := new(big.Rat).SetString(s)
		if !ok {
			t.Fatal(s)
		}
		wantNearest(t, s, w)
	}
}

// P3.1: great powers that the digits outweigh, and powers that nothing outweighs.
func TestParseGreatPowers(t *testing.T) {
	noughts := strings.Repeat("0", 200000)
	nines := strings.Repeat("9", 200000)
	half := exact(new(big.Rat).SetFrac(big.NewInt(1), new(big.Int).Lsh(big.NewInt(1), 150))) // of the least real; its last digit is a 5
	for _, c := range []struct {
		s    string
		want float32
	}{
		{"0." + noughts + "15e200001", 1.5}, {"15" + noughts + ".0e-200001", 1.5}, {"0." + noughts + "7e200001", 7},
		{"-0." + noughts + "1e200000", -0.1}, {"1" + noughts + ".0e-200010", 1e-10}, {"1" + noughts + ".0e-" + noughts + "200000", 1},
		{"0." + noughts + "1e200039", 1e38}, {"1" + noughts + ".0e-200045", least()}, {"1" + noughts + ".0e-200046", 0},
		{"1.0e-" + nines, 0}, {"-1.0e-" + nines, low()}, {"0.0e" + nines, 0}, {"-0.0e" + nines, low()}, {"0.0e-" + nines, 0}, {"-0.0e-" + nines, low()}, {nines + ".0e-" + nines, 0},
		{"1.0e-9223372036854775808", 0}, {"1.0e-9223372036854775809", 0}, {"1.0e-18446744073709551616", 0}, {"1.0e-4294967296", 0}, {"1.0e-4294967295", 0}, {"0.0e18446744073709551616", 0}, {"1.0e-1099511627776", 0}, {"1.0e-99999", 0}, {"1.0e-100000", 0},
		{"1.0e" + noughts, 1}, {"1.0e" + noughts + "2", 100}, {noughts + "1.5" + noughts, 1.5}, {"-" + noughts + ".0" + noughts, low()},
		{"0." + nines, 1}, {"1." + nines + "e-45", least()}, {nines + ".0e-200000", 1},
		{half + noughts, 0}, {half + noughts + "1", least()}, {half[:len(half)-1] + "4" + nines, 0}, {"-" + half + noughts + "1e-0", -least()}, {"-" + half + noughts, low()},
	} {
		wantParse(t, c.s, c.want)
	}
	for _, s := range []string{
		"0." + noughts + "1e200040", "1" + noughts + ".0e-199961", "1.0e" + nines, "-1.0e" + nines, nines + ".0", "1.0e9223372036854775808", "1.0e18446744073709551616", "1.0e18446744073709551615", "1.0e4294967296", "1.0e1099511627776", "0." + noughts + "1e" + nines, "1.0e99999", "1.0e100000",
		nines, noughts, noughts + ".", "1.0e-" + noughts + "x",
	} {
		wantNone(t, s)
	}
}
