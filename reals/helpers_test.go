package reals_test

import (
	"math"
	"math/big"
	"slices"
	"strconv"
)

const (
	signBit = 1 << 31
	infBits = 0x7f800000
	lowKey  = 0x007fffff // of -inf
	infKey  = 0xff800000
	nanKey  = 0xffc00000
)

func bits(b uint32) float32 { return math.Float32frombits(b) }

func inf() float32 { return bits(infBits) }

func nan() float32 { return bits(0x7fc00000) }

// low is -0, which no literal says.
func low() float32 { return bits(signBit) }

func least() float32 { return bits(1) }

func isNan(x float32) bool { return x != x }

func isInf(x float32) bool { return math.IsInf(float64(x), 0) }

// is holds two reals against each other bit by bit, all nan being one.
func is(a, b float32) bool {
	return isNan(a) && isNan(b) || math.Float32bits(a) == math.Float32bits(b)
}

// nans are of both signs, quiet and signalling.
func nans() []float32 {
	var all []float32
	for _, b := range []uint32{0x7f800001, 0x7fbfffff, 0x7fc00000, 0x7fffffff, 0xff800001, 0xffc00000, 0xffffffff} {
		all = append(all, bits(b))
	}
	return all
}

// edgeBits are the bits of reals that are not below 0, about which something changes.
func edgeBits() []uint32 {
	var all []uint32
	add := func(x float32) {
		b := math.Float32bits(x)
		for d := range uint32(5) {
			if b+d >= 2 && b+d-2 <= infBits {
				all = append(all, b+d-2)
			}
		}
	}
	for _, x := range []float32{0, bits(0x00400000), bits(0x00800000), 0.00001, 0.0001, 0.001, 0.1, 0.25, 0.5, 1, 1.5, 2, 3, 9.5, 10, 100, 1 << 22, 1 << 23, 1 << 24, 1 << 25, 123456792, 1e9, 1e10, 1 << 31, 1 << 32, 1 << 53, 1 << 62, 1 << 63, 1 << 64, 1e20, 1e30, 1e38, math.MaxFloat32, inf()} {
		add(x)
	}
	slices.Sort(all)
	return slices.Compact(all)
}

// edges are all reals about which something changes, on both sides of 0, without nan.
func edges() []float32 {
	var all []float32
	for _, b := range edgeBits() {
		all = append(all, bits(b), bits(b|signBit))
	}
	return all
}

// spread answers n numbers that are laid all over the 64 bits, the same ones at all times.
func spread(n int, seed uint64) []uint64 {
	all := make([]uint64, n)
	x := seed
	for i := range all {
		x += 0x9e3779b97f4a7c15
		y := x
		y = (y ^ y>>30) * 0xbf58476d1ce4e5b9
		y = (y ^ y>>27) * 0x94d049bb133111eb
		all[i] = y ^ y>>31
	}
	return all
}

// finites are reals laid all over their bits, of both signs, with those at which the power of two changes.
func finites(n int) []float32 {
	var all []float32
	for e := range uint32(255) {
		for _, m := range []uint32{0, 1, 0x400000, 0x7fffff} {
			all = append(all, bits(e<<23|m), bits(signBit|e<<23|m))
		}
	}
	for _, r := range spread(n, 3) {
		if x := bits(uint32(r)); !isNan(x) && !isInf(x) {
			all = append(all, x)
		}
	}
	return all
}

// worth is the number that a finite real is.
func worth(x float32) *big.Rat {
	return new(big.Rat).SetFloat64(float64(x))
}

// nearest is the real nearest to a number by the library of great numbers, which knows nothing of noughts below 0.
func nearest(w *big.Rat) float32 {
	x, _ := w.Float32()
	return x
}

func ten(k int) *big.Rat {
	p := new(big.Rat).SetInt(new(big.Int).Exp(big.NewInt(10), big.NewInt(int64(max(k, -k))), nil))
	if k < 0 {
		p.Inv(p)
	}
	return p
}

func name(x float32) string {
	return strconv.FormatFloat(float64(x), 'g', -1, 32) + " (" + strconv.FormatUint(uint64(math.Float32bits(x)), 16) + ")"
}

// ordered are reals in their order, as the chapter lays them: by hand, not by a key.
func ordered() []float32 {
	return []float32{-inf(), -math.MaxFloat32, -1e30, -16777216, -1.0000001, -1, -0.5, -1e-30, bits(signBit | 0x800000), bits(signBit | 2), -least(), low(), 0, least(), bits(2), bits(0x800000), 1e-30, 0.5, 1, 1.0000001, 16777216, 1e30, math.MaxFloat32, inf(), nan()}
}
