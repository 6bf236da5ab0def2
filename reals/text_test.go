package reals_test

import (
	"math"
	"math/big"
	"strconv"
	"strings"
	"testing"

	"latchkey/reals"
)

// P3.2, example 1, and the powers from -4 to 8 with one past these.
func TestTextOf(t *testing.T) {
	for _, c := range []struct {
		x    float32
		want string
	}{
		{1, "1.0"}, {0.1, "0.1"}, {100, "100.0"}, {16777216, "16777216.0"}, {1e10, "1.0e10"}, {1e9, "1.0e9"}, {123456792, "123456790.0"},
		{0.0001, "0.0001"}, {0.00001, "1.0e-5"}, {least(), "1.0e-45"}, {math.MaxFloat32, "3.4028235e38"}, {low(), "-0.0"},
		{0, "0.0"}, {inf(), "inf"}, {-inf(), "-inf"}, {-least(), "-1.0e-45"}, {-math.MaxFloat32, "-3.4028235e38"},
		{0.00009, "9.0e-5"}, {0.000012345679, "1.2345679e-5"}, {0.00012345678, "0.00012345678"}, {0.0012345678, "0.0012345678"}, {0.0123, "0.0123"}, {0.5, "0.5"}, {0.999, "0.999"},
		{9, "9.0"}, {1.25, "1.25"}, {12.5, "12.5"}, {10, "10.0"}, {1234.5, "1234.5"}, {12345678, "12345678.0"}, {1e8, "100000000.0"}, {1.2e8, "120000000.0"}, {999999940, "999999940.0"}, {1.2e9, "1.2e9"}, {1.2345e9, "1.2345e9"},
		{-2.5, "-2.5"}, {-0.0001, "-0.0001"}, {-1e8, "-100000000.0"}, {-1e9, "-1.0e9"}, {-1.5e-5, "-1.5e-5"}, {-1.5e30, "-1.5e30"},
		// Two lie equally near: the one whose last digit is even.
		{2097152.25, "2097152.2"}, {2097152.75, "2097152.8"}, {2097153.25, "2097153.2"}, {-2097155.75, "-2097155.8"},
		// Below a power of two the reals lie closer than above it, so the nearest number of as many digits may be another real's.
		{bits(0x0f800000), "1.2621775e-29"}, {bits(0x6b000000), "1.5474251e26"}, {bits(0x6c800000), "1.2379401e27"},
		{bits(0x4c000000), "33554432.0"}, {bits(0x00800000), "1.1754944e-38"}, {bits(0x007fffff), "1.1754942e-38"}, {bits(0x50000000), "8.589935e9"}, {bits(0x6c000000), "6.1897002e26"},
	} {
		if got := reals.Text(c.x); got != c.want {
			t.Errorf("Text(%s) = %q, want %q", name(c.x), got, c.want)
		}
	}
}

// P3.2: nan, of any bits.
func TestTextOfNan(t *testing.T) {
	for _, x := range nans() {
		if got := reals.Text(x); got != "nan" {
			t.Errorf("Text(%s) = %q", name(x), got)
		}
	}
}

// laidOut writes c times ten to the power k, c with n digits, as P3.2 says.
func laidOut(c *big.Int, k int) string {
	digits := c.String()
	k += len(digits) - 1
	if k < -4 || k > 8 {
		return digits[:1] + "." + (digits + "0")[1:max(2, len(digits))] + "e" + strconv.Itoa(k)
	}
	text := new(big.Rat).Mul(new(big.Rat).SetInt(c), ten(k-len(digits)+1)).FloatString(16)
	text = strings.TrimRight(text, "0")
	if strings.HasSuffix(text, ".") {
		text += "0"
	}
	return text
}

// bySearch is the text of a real above 0, by looking for it as P3.2 says: with one digit, with two, and so on, the last number at or below x and the first one above it.
func bySearch(x float32) string {
	w := worth(x)
	_, exponent, _ := strings.Cut(strconv.FormatFloat(float64(x), 'e', 20, 64), "e")
	k, _ := strconv.Atoi(exponent)
	for n := 1; ; n++ {
		step := ten(k - n + 1)
		q := new(big.Rat).Quo(w, step)
		down := new(big.Int).Quo(q.Num(), q.Denom())
		up := new(big.Int).Add(down, big.NewInt(1))
		wDown, wUp := new(big.Rat).Mul(new(big.Rat).SetInt(down), step), new(big.Rat).Mul(new(big.Rat).SetInt(up), step)
		okDown, okUp := nearest(wDown) == x, nearest(wUp) == x
		nearer := new(big.Rat).Sub(w, wDown).Cmp(new(big.Rat).Sub(wUp, w))
		switch {
		case okDown && (!okUp || nearer < 0 || nearer == 0 && down.Bit(0) == 0):
			return laidOut(down, k-n+1)
		case okUp && n == len(up.String()):
			return laidOut(up, k-n+1)
		case okUp: // one digit more, a nought: ten to the next power
			return laidOut(big.NewInt(1), k+1)
		}
	}
}

// P3.2: the fewest digits, the nearest of those, laid out by their power.
func TestTextIsShortestAndNearest(t *testing.T) {
	for _, x := range append(finites(3000), edges()...) {
		if x == 0 || isInf(x) {
			continue
		}
		want := bySearch(float32(math.Abs(float64(x))))
		if x < 0 {
			want = "-" + want
		}
		if got := reals.Text(x); got != want {
			t.Errorf("Text(%s) = %q, want %q", name(x), got, want)
		}
	}
}
