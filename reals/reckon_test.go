package reals_test

import (
	"math"
	"math/big"
	"testing"

	"latchkey/api"
	"latchkey/reals"
)

// P3.4, examples 4 and 5, and the ends of the whole numbers.
func TestIntExamples(t *testing.T) {
	for _, c := range []struct {
		x    float32
		n    int64
		want int
		ok   bool
	}{
		{16777216, 16777217, -1, true}, {low(), 0, 0, true}, {1 << 63, math.MaxInt64, 1, true}, {-inf(), math.MinInt64, -1, true}, {nan(), 0, 0, false},
		{inf(), math.MaxInt64, 1, true}, {inf(), 0, 1, true}, {-inf(), 0, -1, true}, {-1 << 63, math.MinInt64, 0, true}, {-1 << 63, math.MinInt64 + 1, -1, true}, {bits(0xdf000001), math.MinInt64, -1, true}, {bits(0x5effffff), math.MaxInt64, -1, true},
		{0, 0, 0, true}, {least(), 0, 1, true}, {-least(), 0, -1, true}, {0.5, 1, -1, true}, {-0.5, -1, 1, true}, {1.5, 1, 1, true}, {-1.5, -1, -1, true}, {-1.5, -2, 1, true}, {2, 1, 1, true}, {1, 2, -1, true}, {7, 7, 0, true}, {math.MaxFloat32, math.MaxInt64, 1, true}, {-math.MaxFloat32, math.MinInt64, -1, true},
	} {
		if got, ok := reals.CompareInt(c.x, c.n); got != c.want || ok != c.ok {
			t.Errorf("CompareInt(%s, %d) = %d, %v, want %d, %v", name(c.x), c.n, got, ok, c.want, c.ok)
		}
	}
	for n, want := range map[int64]float32{16777217: 16777216, math.MaxInt64: 1 << 63, math.MinInt64: -1 << 63, 0: 0, 1: 1, -1: -1, 16777219: 16777220, -16777217: -16777216, 16777216: 16777216, 9007199791611905: 9007200328482816} {
		if got := reals.FromInt(n); !is(got, want) {
			t.Errorf("FromInt(%d) = %s, want %s", n, name(got), name(want))
		}
	}
	for _, c := range []struct {
		x    float32
		want int64
		ok   bool
	}{
		{1 << 63, 0, false}, {-1 << 63, math.MinInt64, true}, {0.5, 0, false}, {low(), 0, true},
		{0, 0, true}, {inf(), 0, false}, {-inf(), 0, false}, {bits(0xdf000001), 0, false}, {bits(0x5effffff), 1<<63 - 1<<39, true}, {-7, -7, true}, {1.5, 0, false}, {-0.5, 0, false}, {least(), 0, false}, {math.MaxFloat32, 0, false}, {8388607.5, 0, false}, {8388608, 8388608, true}, {1 << 62, 1 << 62, true},
	} {
		if got, ok := reals.ToInt(c.x); got != c.want || ok != c.ok {
			t.Errorf("ToInt(%s) = %d, %v, want %d, %v", name(c.x), got, ok, c.want, c.ok)
		}
	}
	for _, x := range nans() {
		if got, ok := reals.ToInt(x); got != 0 || ok {
			t.Errorf("ToInt(%s) = %d, %v", name(x), got, ok)
		}
		if got, ok := reals.CompareInt(x, math.MinInt64); got != 0 || ok {
			t.Errorf("CompareInt(%s) = %d, %v", name(x), got, ok)
		}
	}
}

// wholes are whole numbers of all lengths, those halfway between two reals and beside that too.
func wholes() []int64 {
	var all []int64
	for s := range 63 {
		for d := int64(-2); d <= 2; d++ {
			all = append(all, 1<<s+d, -(1<<s)+d)
			if s >= 24 {
				half := int64(1) << (s - 24)
				all = append(all, 1<<s+half+d, 1<<s+3*half+d, -(1<<s)-half+d, -(1<<s)-3*half+d, 1<<s-half/2+d)
			}
		}
	}
	for _, r := range spread(2000, 13) {
		all = append(all, int64(r)>>(r%64))
	}
	return append(all, 0, math.MinInt64, math.MinInt64+1, math.MaxInt64, math.MaxInt64-1)
}

// P3.4: FromInt against the library of great numbers.
func TestFromInt(t *testing.T) {
	for _, n := range wholes() {
		if got, want := reals.FromInt(n), nearest(new(big.Rat).SetInt64(n)); !is(got, want) {
			t.Errorf("FromInt(%d) = %s, want %s", n, name(got), name(want))
		}
	}
}

// P3.4: ToInt against the library of great numbers.
func TestToInt(t *testing.T) {
	list := append(finites(2000), edges()...)
	for _, n := range wholes() {
		list = append(list, float32(n))
	}
	for _, x := range list {
		if isInf(x) {
			continue
		}
		want, ok := int64(0), worth(x).IsInt() && worth(x).Num().IsInt64()
		if ok {
			want = worth(x).Num().Int64()
		}
		if got, held := reals.ToInt(x); got != want || held != ok {
			t.Errorf("ToInt(%s) = %d, %v, want %d, %v", name(x), got, held, want, ok)
		}
	}
}

// P3.4: CompareInt against the library of great numbers, of whole numbers about the real and elsewhere.
func TestCompareInt(t *testing.T) {
	list := wholes()
	for i, x := range append(finites(2000), edges()...) {
		if isInf(x) {
			continue
		}
		about := []int64{0, 1, -1, math.MinInt64, math.MaxInt64, list[i%len(list)]}
		if x >= -1<<62 && x <= 1<<62 {
			about = append(about, int64(x)-1, int64(x), int64(x)+1)
		}
		for _, n := range about {
			want := worth(x).Cmp(new(big.Rat).SetInt64(n))
			if got, ok := reals.CompareInt(x, n); got != want || !ok {
				t.Errorf("CompareInt(%s, %d) = %d, %v, want %d", name(x), n, got, ok, want)
			}
		}
	}
	for _, n := range list {
		for _, x := range []float32{float32(n), math.Nextafter32(float32(n), inf()), math.Nextafter32(float32(n), -inf())} {
			if got, ok := reals.CompareInt(x, n); got != worth(x).Cmp(new(big.Rat).SetInt64(n)) || !ok {
				t.Errorf("CompareInt(%s, %d) = %d, %v", name(x), n, got, ok)
			}
		}
	}
}

// P3.5, example 6.
func TestDoExamples(t *testing.T) {
	for _, c := range []struct {
		kind       int
		a, b, want float32
	}{
		{api.PartOver, 1, 0, inf()}, {api.PartOver, 1, low(), -inf()}, {api.PartOver, 0, 0, nan()}, {api.PartOver, 1, 3, 0.33333334}, {api.PartTimes, 1e30, 1e30, inf()}, {api.PartTimes, 1e-30, -1e-30, low()},
		{api.PartPlus, low(), low(), low()}, {api.PartLess, 1, 1, 0}, {api.PartLess, inf(), inf(), nan()}, {0, 1, 1, nan()},
		{api.PartTimes, 6, 7, 42}, {api.PartOver, 7, 2, 3.5}, {api.PartPlus, 1.5, 2.25, 3.75}, {api.PartLess, 1, 3, -2}, {api.PartLess, low(), 0, low()}, {api.PartLess, 0, 0, 0}, {api.PartLess, 0, low(), 0}, {api.PartLess, low(), low(), 0}, {api.PartPlus, 0, low(), 0}, {api.PartPlus, low(), 0, 0}, {api.PartPlus, -1, 1, 0},
		{api.PartPlus, 16777216, 1, 16777216}, {api.PartPlus, 16777216, 3, 16777220}, {api.PartPlus, math.MaxFloat32, math.MaxFloat32, inf()}, {api.PartLess, -math.MaxFloat32, math.MaxFloat32, -inf()}, {api.PartLess, bits(0x00800001), bits(0x00800000), least()}, {api.PartTimes, least(), 0.5, 0}, {api.PartTimes, least(), 0.75, least()}, {api.PartOver, -least(), 2, low()}, {api.PartOver, math.MaxFloat32, 0.5, inf()},
	} {
		if got := reals.Do(c.kind, c.a, c.b); !is(got, c.want) {
			t.Errorf("Do(%d, %s, %s) = %s, want %s", c.kind, name(c.a), name(c.b), name(got), name(c.want))
		}
	}
}

// reckons are the kinds that reckon something.
func reckons() []int {
	return []int{api.PartTimes, api.PartOver, api.PartPlus, api.PartLess}
}

// P3.5: nan of every other kind, and wherever one of the two is nan.
func TestDoNan(t *testing.T) {
	for _, kind := range []int{math.MinInt, -1, 0, api.PartValue, api.PartParam, api.PartMinus, api.PartNo, api.PartIs, api.PartIsNot, api.PartBelow, api.PartAtMost, api.PartAbove, api.PartAtLeast, api.PartIn, api.PartBoth, api.PartEither, api.PartEither + 1, 1 << 32, 1<<32 + api.PartTimes, math.MaxInt} {
		for _, x := range edges() {
			if got := reals.Do(kind, x, 2); !isNan(got) {
				t.Errorf("Do(%d, %s, 2) = %s", kind, name(x), name(got))
			}
		}
	}
	for _, kind := range reckons() {
		for _, a := range nans() {
			for _, b := range append(edges(), nans()...) {
				if x, y := reals.Do(kind, a, b), reals.Do(kind, b, a); !isNan(x) || !isNan(y) {
					t.Errorf("Do(%d, %s, %s) = %s, %s", kind, name(a), name(b), name(x), name(y))
				}
			}
		}
	}
}

func below0(x float32) bool { return math.Float32bits(x)&signBit != 0 }

// to0 gives a nought the sign that it is to have.
func to0(x float32, below bool) float32 {
	if x == 0 && below {
		return low()
	}
	return x
}

// reckoned is what P3.5 says comes out of two reals that are not nan, by its words.
func reckoned(kind int, a, b float32) float32 {
	across := below0(a) != below0(b)
	far := inf()
	if across {
		far = -inf()
	}
	switch kind {
	case api.PartTimes:
		switch {
		case isInf(a) && b == 0 || a == 0 && isInf(b):
			return nan()
		case isInf(a) || isInf(b):
			return far
		}
		return to0(nearest(new(big.Rat).Mul(worth(a), worth(b))), across)
	case api.PartOver:
		switch {
		case a == 0 && b == 0 || isInf(a) && isInf(b):
			return nan()
		case b == 0 || isInf(a):
			return far
		case isInf(b):
			return to0(0, across)
		}
		return to0(nearest(new(big.Rat).Quo(worth(a), worth(b))), across)
	case api.PartLess:
		return reckoned(api.PartPlus, a, bits(math.Float32bits(b)^signBit))
	}
	switch {
	case isInf(a) && isInf(b) && a != b:
		return nan()
	case isInf(a):
		return a
	case isInf(b):
		return b
	}
	return to0(nearest(new(big.Rat).Add(worth(a), worth(b))), a == 0 && b == 0 && below0(a) && below0(b))
}

// P3.5: against the words, with the library of great numbers for what comes out of finite ones.
func TestDo(t *testing.T) {
	try := func(a, b float32) {
		for _, kind := range reckons() {
			if got, want := reals.Do(kind, a, b), reckoned(kind, a, b); !is(got, want) {
				t.Errorf("Do(%d, %s, %s) = %s, want %s", kind, name(a), name(b), name(got), name(want))
			}
		}
	}
	list := ordered()[:len(ordered())-1]
	list = append(list, 3, -3, 7, 0.1, 10, -0.3, 8388608, 16777215, 1e-45, 2e38, 1e-38, 3e-20, 3e19)
	for _, a := range list {
		for _, b := range list {
			try(a, b)
		}
	}
	all := finites(4000)
	for i, r := range spread(6000, 17) {
		try(all[i%len(all)], all[r%uint64(len(all))])
	}
	for i, r := range spread(3000, 19) { // of one size, so that sums lose digits and quotients lie about 1
		a := all[i%len(all)]
		b := bits(math.Float32bits(a)&0xff800000 ^ uint32(r)&0x807fffff)
		try(a, b)
	}
}
