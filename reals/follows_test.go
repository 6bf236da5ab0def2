package reals_test

import (
	"cmp"
	"math"
	"strconv"
	"strings"
	"testing"

	"latchkey/api"
	"latchkey/reals"
)

func everything() []float32 {
	return append(append(append(finites(3000), edges()...), nans()...), inf(), -inf())
}

// P3.8: Parse of Text is x, by Same.
func TestTextThereAndBack(t *testing.T) {
	for _, x := range everything() {
		y, e := reals.Parse(reals.Text(x))
		if e != api.OK || !reals.Same(x, y) || !is(x, y) {
			t.Errorf("Parse(Text(%s)) = %s, %d", name(x), name(y), e)
		}
	}
}

// P3.8: no text of fewer digits is read as x. (The two numbers of one digit less that x lies between, and those beside them.)
func TestNoShorterText(t *testing.T) {
	for _, x := range append(finites(3000), edges()...) {
		if x == 0 || isInf(x) {
			continue
		}
		body, _, _ := strings.Cut(reals.Text(x), "e")
		n := len(strings.Trim(strings.NewReplacer(".", "", "-", "").Replace(body), "0"))
		if n == 1 {
			continue
		}
		less := strconv.FormatFloat(math.Abs(float64(x)), 'e', n-2, 64)
		digits, exponent, _ := strings.Cut(strings.Replace(less, ".", "", 1), "e")
		k, _ := strconv.Atoi(exponent)
		c, _ := strconv.Atoi(digits)
		for d := -1; d <= 1; d++ {
			s := strconv.Itoa(c+d) + ".0e" + strconv.Itoa(k-n+2)
			if y, e := reals.Parse(s); e == api.OK && y == float32(math.Abs(float64(x))) {
				t.Errorf("Text(%s) = %s, but %s is read as it too", name(x), reals.Text(x), s)
			}
		}
	}
}

// P3.8: Compare is an order, and goes by Key.
func TestCompareGoesByKey(t *testing.T) {
	list := append(append(edges(), nans()...), finites(50)...)
	for _, a := range list {
		for _, b := range list {
			want := cmp.Compare(reals.Key(a), reals.Key(b))
			if got := reals.Compare(a, b); got != want || reals.Compare(b, a) != -want || reals.Same(a, b) != (want == 0) {
				t.Errorf("Compare(%s, %s) = %d, by their keys %d", name(a), name(b), got, want)
			}
		}
	}
}

// P3.8: between a real and its Next stands none; Next leads there and back.
func TestNextLeavesNoneOut(t *testing.T) {
	for _, x := range everything() {
		up, down := reals.Next(x, true), reals.Next(x, false)
		if isNan(x) {
			continue
		}
		if reals.Compare(x, up) != -1 || !reals.Same(reals.Next(up, false), x) {
			t.Errorf("Next(%s, up) = %s", name(x), name(up))
		}
		if !isNan(up) && reals.Key(up)-reals.Key(x) != 1 || isNan(up) && x != inf() {
			t.Errorf("between %s and %s", name(x), name(up))
		}
		if x != -inf() && (reals.Compare(down, x) != -1 || !reals.Same(reals.Next(down, true), x)) {
			t.Errorf("Next(%s, down) = %s", name(x), name(down))
		}
	}
	steps := 0
	for x := -bits(50); reals.Compare(x, bits(50)) < 0; x = reals.Next(x, true) {
		steps++
	}
	if steps != 101 {
		t.Errorf("%d steps from -50 to 50 times the least real, through both noughts", steps)
	}
}

// P3.8: ToInt of FromInt is n up to 2^24 on both sides, and not beyond.
func TestIntThereAndBack(t *testing.T) {
	for n := int64(0); n <= 1<<24; n += 1 + n>>9 {
		for _, m := range []int64{n, -n, 1<<24 - n, n - 1<<24} {
			if got, ok := reals.ToInt(reals.FromInt(m)); got != m || !ok {
				t.Errorf("ToInt(FromInt(%d)) = %d, %v", m, got, ok)
			}
		}
	}
	if got, ok := reals.ToInt(reals.FromInt(1<<24 + 1)); got != 1<<24 || !ok {
		t.Errorf("ToInt(FromInt(2^24 + 1)) = %d, %v", got, ok)
	}
}

// P3.8: FromInt never falls.
func TestFromIntRises(t *testing.T) {
	list := wholes()
	for i, n := range list {
		for _, m := range []int64{n + 1, list[(i*7+1)%len(list)]} {
			a, b := min(n, m), max(n, m)
			if reals.Compare(reals.FromInt(a), reals.FromInt(b)) > 0 {
				t.Errorf("FromInt(%d) stands behind FromInt(%d)", a, b)
			}
		}
	}
}

// P3.8: what is added grows with a.
func TestSumsGrow(t *testing.T) {
	list := append(ordered(), 3, -3, 0.1, -0.3, 1e-44, -1e-44, 16777215)
	for _, a := range list {
		for _, b := range list {
			for _, c := range list {
				if reals.Compare(a, b) > 0 || isNan(c) || isInf(c) {
					continue
				}
				x, y := reals.Do(api.PartPlus, a, c), reals.Do(api.PartPlus, b, c)
				if !isNan(x) && !isNan(y) && reals.Compare(x, y) > 0 {
					t.Errorf("%s and %s added stand behind %s and %s", name(a), name(c), name(b), name(c))
				}
			}
		}
	}
}

// P3.8: a whole number as a text is read as FromInt of it.
func TestParseOfWholes(t *testing.T) {
	for _, n := range wholes() {
		if x, e := reals.Parse(strconv.FormatInt(n, 10) + ".0"); e != api.OK || !is(x, reals.FromInt(n)) {
			t.Errorf("Parse of %d = %s, %d, want %s", n, name(x), e, name(reals.FromInt(n)))
		}
	}
}

// Rules, Sameness: what is no number comes out with the same bits, whatever led there.
func TestOneNan(t *testing.T) {
	first, _ := reals.Parse("nan")
	list := []float32{reals.Next(inf(), true), reals.FromKey(0), reals.FromKey(nanKey), reals.Do(0, 1, 1), reals.Do(api.PartOver, 0, 0), reals.Do(api.PartLess, inf(), inf())}
	for _, x := range nans() {
		list = append(list, reals.Do(api.PartPlus, x, 1), reals.Do(api.PartTimes, 1, x), reals.Next(x, true))
	}
	for i, x := range list {
		if math.Float32bits(x) != math.Float32bits(first) {
			t.Errorf("%d: %s", i, name(x))
		}
	}
}
