package octets

import (
	"bytes"
	"math"

	"latchkey/api"
)

const (
	more     = 128        // stands in each byte of a short form but the last
	longest  = 10         // bytes of the short form of the greatest number
	signBit  = 1 << 31    // of a real number's bits
	nanKey   = 0xffc00000 // the one key of all that are no numbers
	nanBits  = 0x7fc00000 // what is read of it
	keyBytes = 4
)

// Each of the functions whose name begins with first reads what stands at the beginning of b, and says how many bytes that has: 0 beside an error.

func firstByte(b []byte) (x byte, size int, e api.Errno) {
	if len(b) == 0 {
		return 0, 0, api.ErrShort
	}
	return b[0], 1, api.OK
}

func firstShort(b []byte) (x uint64, size int, e api.Errno) {
	for i, c := range b {
		// A last byte 0 would give a number a second form; a tenth byte has room for one bit.
		if i > 0 && c == 0 || i == longest-1 && c > 1 {
			return 0, 0, api.ErrNumber
		}
		x |= uint64(c&^more) << (7 * i)
		if c < more {
			return x, i + 1, api.OK
		}
	}
	return 0, 0, api.ErrShort
}

func firstTurned(b []byte) (x int64, size int, e api.Errno) {
	u, size, e := firstShort(b)
	return unturned(u), size, e
}

func firstReal(b []byte) (x float32, size int, e api.Errno) {
	if len(b) < keyBytes {
		return 0, 0, api.ErrShort
	}
	x, ok := fromKey(uint32(b[0])<<24 | uint32(b[1])<<16 | uint32(b[2])<<8 | uint32(b[3]))
	if !ok {
		return 0, 0, api.ErrNumber
	}
	return x, keyBytes, api.OK
}

func firstText(b []byte, most int) (s string, size int, e api.Errno) {
	if most < 0 {
		return "", 0, api.ErrArg
	}
	length, ahead, e := firstShort(b)
	switch {
	case e != api.OK:
		return "", 0, e
	case length > uint64(most):
		return "", 0, api.ErrLong
	case length > uint64(len(b)-ahead):
		return "", 0, api.ErrShort
	}
	size = ahead + int(length)
	return string(b[ahead:size]), size, api.OK
}

func firstRaw(b []byte, n int) (raw []byte, size int, e api.Errno) {
	switch {
	case n < 0:
		return nil, 0, api.ErrArg
	case n > len(b):
		return nil, 0, api.ErrShort
	}
	return bytes.Clone(b[:n]), n, api.OK
}

// turned lays all whole numbers on those from 0 on, so that small ones are short on both sides of 0.
func turned(x int64) uint64 {
	return uint64(x<<1) ^ uint64(x>>63)
}

func unturned(x uint64) int64 {
	return int64(x>>1) ^ -int64(x&1)
}

func key(x float32) uint32 {
	b := math.Float32bits(x)
	switch {
	case x != x:
		return nanKey
	case b&signBit != 0:
		return ^b
	}
	return b | signBit
}

// fromKey answers the real number whose key k is; false, if there is none.
func fromKey(k uint32) (float32, bool) {
	if k == nanKey {
		return math.Float32frombits(nanBits), true
	}
	b := ^k
	if k&signBit != 0 {
		b = k &^ signBit
	}
	x := math.Float32frombits(b)
	if x != x {
		return 0, false
	}
	return x, true
}
