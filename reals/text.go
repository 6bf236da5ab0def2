package reals

import (
	"strconv"
	"strings"

	"latchkey/api"
)

const (
	nanText   = "nan"
	infText   = "inf"
	minus     = "-"
	point     = "."
	power     = "e"
	nought    = "0"
	lowPlain  = -4      // the least power of ten that is written without an e
	highPlain = 8       // the greatest one
	lowPower  = -46     // ten to a lesser power, even ten times that, comes to a nought
	highPower = 38      // ten to a greater power is infinite
	farPower  = 1 << 40 // no text has so many digits that they outweigh such a power
)

// Text writes x with the fewest digits of which x is the nearest real.
func Text(x float32) string {
	switch {
	case isNan(x):
		return nanText
	case below0(x):
		return minus + textAbove(-x)
	}
	return textAbove(x)
}

// textAbove writes a real that is neither nan nor below 0.
func textAbove(x float32) string {
	switch x {
	case 0:
		return nought + point + nought
	case infinite(false):
		return infText
	}
	digits, k := shortest(x)
	if k < lowPlain || k > highPlain {
		return digits[:1] + point + orNought(digits[1:]) + power + strconv.Itoa(k)
	}
	return plain(digits, k)
}

// shortest answers the fewest digits of which x is the nearest real, and the power of ten at which the first of them stands.
func shortest(x float32) (digits string, k int) {
	body, exponent, _ := strings.Cut(strconv.FormatFloat(float64(x), 'e', -1, 32), power)
	k, _ = strconv.Atoi(exponent)
	return strings.Replace(body, point, "", 1), k
}

// plain lays digits out about a point, the first of them standing at ten to the power k.
func plain(digits string, k int) string {
	if k < 0 {
		return nought + point + strings.Repeat(nought, -k-1) + digits
	}
	lacking := k + 1 - len(digits)
	if lacking >= 0 {
		return digits + strings.Repeat(nought, lacking) + point + nought
	}
	return digits[:k+1] + point + digits[k+1:]
}

func orNought(digits string) string {
	if digits == "" {
		return nought
	}
	return digits
}

// Parse reads a text of a real.
func Parse(s string) (float32, api.Errno) {
	bare, below := strings.CutPrefix(s, minus)
	switch {
	case s == nanText:
		return nan(), api.OK
	case bare == infText:
		return infinite(below), api.OK
	}
	said, ok := cut(bare)
	if !ok {
		return 0, api.ErrReal
	}
	x, ok := nearest(said)
	if !ok {
		return 0, api.ErrReal
	}
	return signed(x, below), api.OK
}

// number is what a text says: its digits, none of them a needless nought at either end, and the power of ten at which the first of them stands.
type number struct {
	digits string
	k      int64
}

// cut takes a text without its minus apart; false, if it is no text of a real.
func cut(s string) (number, bool) {
	body, exponent, powered := strings.Cut(s, power)
	whole, part, pointed := strings.Cut(body, point)
	exponent, down := strings.CutPrefix(exponent, minus)
	if !pointed || !allDigits(whole) || !allDigits(part) || powered && !allDigits(exponent) {
		return number{}, false
	}
	k := atMostFar(exponent)
	if down {
		k = -k
	}
	all := whole + part
	from := strings.TrimLeft(all, nought)
	ahead := len(all) - len(from)
	return number{strings.TrimRight(from, nought), k + int64(len(whole)-1-ahead)}, true
}

func allDigits(s string) bool {
	for i := range len(s) {
		if s[i] < '0' || s[i] > '9' {
			return false
		}
	}
	return s != ""
}

// atMostFar answers the number that the digits are, or one of at least farPower where they are more than that.
func atMostFar(digits string) int64 {
	n := int64(0)
	for i := range len(digits) {
		if n < farPower {
			n = n*10 + int64(digits[i]-'0')
		}
	}
	return n
}

// nearest answers the real nearest to a number; false, if that is infinite.
func nearest(n number) (float32, bool) {
	switch {
	case n.digits == "" || n.k < lowPower:
		return 0, true
	case n.k > highPower:
		return 0, false
	}
	// The library loses count of powers of many digits, so it is handed the number with its point behind the first digit, where the power is a small one.
	x, err := strconv.ParseFloat(n.digits[:1]+point+n.digits[1:]+power+strconv.FormatInt(n.k, 10), 32)
	return float32(x), err == nil
}
