package reals_test

import (
	"math"
	"testing"

	"latchkey/reals"
)

// P3.3: where each of two reals stands in a list that is laid by hand says how they compare.
func TestOrderByHand(t *testing.T) {
	list := ordered()
	for i, a := range list {
		for j, b := range list {
			want := 0
			switch {
			case i < j:
				want = -1
			case i > j:
				want = 1
			}
			if got := reals.Compare(a, b); got != want {
				t.Errorf("Compare(%s, %s) = %d, want %d", name(a), name(b), got, want)
			}
			if got := reals.Same(a, b); got != (i == j) {
				t.Errorf("Same(%s, %s) = %v", name(a), name(b), got)
			}
		}
	}
}

// P3.3, example 3.
func TestCompareExamples(t *testing.T) {
	if got := reals.Compare(low(), 0); got != -1 {
		t.Errorf("Compare(-0, 0) = %d", got)
	}
	if got := reals.Compare(nan(), inf()); got != 1 {
		t.Errorf("Compare(nan, inf) = %d", got)
	}
	if got := reals.Compare(nan(), nan()); got != 0 {
		t.Errorf("Compare(nan, nan) = %d", got)
	}
	if reals.Same(low(), 0) {
		t.Error("Same(-0, 0)")
	}
}

// P3.3, P3.6, P3.7: nan of any bits is one and the same, and stands behind all others.
func TestNansAreOne(t *testing.T) {
	for _, a := range nans() {
		for _, b := range nans() {
			if !reals.Same(a, b) || reals.Compare(a, b) != 0 {
				t.Errorf("%s and %s are two", name(a), name(b))
			}
		}
		for _, x := range edges() {
			if reals.Same(a, x) || reals.Same(x, a) || reals.Compare(a, x) != 1 || reals.Compare(x, a) != -1 {
				t.Errorf("%s and %s", name(a), name(x))
			}
		}
		if got := reals.Key(a); got != nanKey {
			t.Errorf("Key(%s) = %x", name(a), got)
		}
		if up, down := reals.Next(a, true), reals.Next(a, false); !isNan(up) || !is(down, inf()) {
			t.Errorf("Next(%s) = %s, %s", name(a), name(up), name(down))
		}
	}
}

// P3.6, example 7.
func TestKeyExamples(t *testing.T) {
	for _, c := range []struct {
		x float32
		k uint32
	}{
		{0, 2147483648}, {low(), 0x7fffffff}, {1, 0xbf800000}, {-inf(), 0x007fffff}, {inf(), 0xff800000},
		{nan(), 4290772992}, {-1, 0x407fffff}, {least(), 0x80000001}, {-least(), 0x7ffffffe}, {math.MaxFloat32, 0xff7fffff}, {-math.MaxFloat32, 0x00800000},
	} {
		if got := reals.Key(c.x); got != c.k {
			t.Errorf("Key(%s) = %x, want %x", name(c.x), got, c.k)
		}
		if got := reals.FromKey(c.k); !is(got, c.x) {
			t.Errorf("FromKey(%x) = %s, want %s", c.k, name(got), name(c.x))
		}
	}
	for _, k := range []uint32{0, 1, 0x003fffff, 0x00400000, 0x007ffffd, 0x007ffffe, 0xff800001, 0xffbfffff, 0xffc00000, 0xffc00001, 0xfffffffe, 0xffffffff} {
		if x := reals.FromKey(k); !isNan(x) {
			t.Errorf("FromKey(%x) = %s", k, name(x))
		}
	}
}

// P3.6: the keys of all reals but nan are those from that of -inf to that of inf, and each leads back.
func TestKeysThereAndBack(t *testing.T) {
	for _, x := range append(edges(), finites(3000)...) {
		k := reals.Key(x)
		if k < lowKey || k > infKey {
			t.Errorf("Key(%s) = %x", name(x), k)
		}
		if y := reals.FromKey(k); !is(x, y) {
			t.Errorf("FromKey(Key(%s)) = %s", name(x), name(y))
		}
	}
	for _, r := range spread(5000, 11) {
		k := uint32(r)
		x := reals.FromKey(k)
		if k < lowKey || k > infKey {
			if !isNan(x) {
				t.Errorf("FromKey(%x) = %s", k, name(x))
			}
		} else if reals.Key(x) != k {
			t.Errorf("Key(FromKey(%x)) = %x", k, reals.Key(x))
		}
	}
}

// P3.7, example 8, and the ends of the order.
func TestNextExamples(t *testing.T) {
	for _, c := range []struct {
		x    float32
		up   bool
		want float32
	}{
		{0, false, low()}, {1, true, 1.0000001}, {inf(), true, nan()}, {nan(), false, inf()}, {-inf(), false, -inf()}, {nan(), true, nan()},
		{low(), true, 0}, {0, true, least()}, {low(), false, -least()}, {least(), false, 0}, {-least(), true, low()}, {-inf(), true, -math.MaxFloat32}, {-math.MaxFloat32, false, -inf()}, {math.MaxFloat32, true, inf()}, {inf(), false, math.MaxFloat32},
		{1, false, 0.99999994}, {-1, true, -0.99999994}, {-1, false, -1.0000001}, {bits(0x007fffff), true, bits(0x00800000)},
	} {
		if got := reals.Next(c.x, c.up); !is(got, c.want) {
			t.Errorf("Next(%s, %v) = %s, want %s", name(c.x), c.up, name(got), name(c.want))
		}
	}
}

// P3.7: of reals other than noughts the library's own next one.
func TestNextAgainstLibrary(t *testing.T) {
	for _, x := range finites(3000) {
		if x == 0 {
			continue
		}
		if up := math.Nextafter32(x, inf()); !is(reals.Next(x, true), up) {
			t.Errorf("Next(%s, up) = %s, want %s", name(x), name(reals.Next(x, true)), name(up))
		}
		if down := math.Nextafter32(x, -inf()); !is(reals.Next(x, false), down) {
			t.Errorf("Next(%s, down) = %s, want %s", name(x), name(reals.Next(x, false)), name(down))
		}
	}
}
