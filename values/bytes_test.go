package values_test

import (
	"bytes"
	"encoding/binary"
	"math"
	"testing"

	"latchkey/api"
	"latchkey/values"
)

func wantBytes(t *testing.T, v api.Value, want []byte) {
	t.Helper()
	if got, e := values.Encode(v); !bytes.Equal(got, want) || e != api.OK {
		t.Errorf("Encode(%s) = % x, %d, want % x", show(v), got, e, want)
	}
	if got, e := values.Decode(want); e != api.OK || !alike(got, v) && !(isNan(got) && isNan(v)) {
		t.Errorf("Decode(% x) = %s, %d, want %s", want, show(got), e, show(v))
	}
}

func wantNoBytes(t *testing.T, b []byte) {
	t.Helper()
	if v, e := values.Decode(b); e != api.ErrBytes || !alike(v, api.Value{}) || v.Texts != nil {
		t.Errorf("Decode of %d bytes, % x = %s, %d", len(b), b[:min(len(b), 40)], show(v), e)
	}
}

// P4.6, example 7.
func TestBytesExamples(t *testing.T) {
	for _, c := range []struct {
		v    api.Value
		want []byte
	}{
		{whole(-1), []byte{2, 1}}, {boolean(true), []byte{1, 1}}, {list("a"), []byte{5, 1, 1, 'a'}},
		{boolean(false), []byte{1, 0}}, {whole(0), []byte{2, 0}}, {whole(1), []byte{2, 2}}, {whole(300), []byte{2, 0xd8, 4}}, {whole(math.MaxInt64), []byte{2, 0xfe, 0xff, 0xff, 0xff, 0xff, 0xff, 0xff, 0xff, 0xff, 1}}, {whole(math.MinInt64), []byte{2, 0xff, 0xff, 0xff, 0xff, 0xff, 0xff, 0xff, 0xff, 0xff, 1}},
		{real32(1), []byte{3, 0xbf, 0x80, 0, 0}}, {real32(-1), []byte{3, 0x40, 0x7f, 0xff, 0xff}}, {real32(0), []byte{3, 0x80, 0, 0, 0}}, {real32(low()), []byte{3, 0x7f, 0xff, 0xff, 0xff}}, {real32(nan()), []byte{3, 0xff, 0xc0, 0, 0}}, {real32(inf()), []byte{3, 0xff, 0x80, 0, 0}}, {real32(-inf()), []byte{3, 0, 0x7f, 0xff, 0xff}},
		{text(""), []byte{4, 0}}, {text("ab"), []byte{4, 2, 'a', 'b'}}, {text("\x00\xff"), []byte{4, 2, 0, 0xff}}, {list(), []byte{5, 0}}, {list(""), []byte{5, 1, 0}}, {list("a", "", "bc"), []byte{5, 3, 1, 'a', 0, 2, 'b', 'c'}},
	} {
		wantBytes(t, c.v, c.want)
	}
	for _, b := range [][]byte{
		{5, 1, 1, 'a', 0}, {1, 2}, {4, 0x80, 0}, nil, {},
		{0}, {0, 0}, {6}, {6, 0}, {7, 1}, {255, 0}, {128, 0}, {1}, {1, 255}, {1, 1, 0}, {1, 0, 0}, {1, 0x80, 0},
		{2}, {2, 0x80}, {2, 0x80, 0}, {2, 0, 0}, {2, 0x82, 0}, {2, 0xff, 0xff, 0xff, 0xff, 0xff, 0xff, 0xff, 0xff, 0xff, 2}, {2, 0x80, 0x80, 0x80, 0x80, 0x80, 0x80, 0x80, 0x80, 0x80, 0x80, 0},
		{3}, {3, 0x80, 0, 0}, {3, 0x80, 0, 0, 0, 0}, {3, 0, 0, 0, 0}, {3, 0, 0x7f, 0xff, 0xfe}, {3, 0xff, 0x80, 0, 1}, {3, 0xff, 0xc0, 0, 1}, {3, 0xff, 0xff, 0xff, 0xff},
		{4}, {4, 1}, {4, 2, 'a'}, {4, 1, 'a', 'b'}, {4, 0, 0}, {4, 0x81, 0, 'a'}, {4, 0xff, 0xff, 0xff, 0xff, 0xff, 0xff, 0xff, 0xff, 0xff, 1},
		{5}, {5, 1}, {5, 2, 0}, {5, 2, 1, 'a'}, {5, 1, 2, 'a'}, {5, 0, 0}, {5, 0x80, 0}, {5, 0x81, 0, 0}, {5, 1, 0x80, 0}, {5, 0xff, 0xff, 0xff, 0xff, 0xff, 0xff, 0xff, 0xff, 0xff, 1}, {5, 0xff, 0xff, 0xff, 0xff, 0xff, 0xff, 0xff, 0xff, 0xff, 1, 0, 0, 0},
	} {
		wantNoBytes(t, b)
	}
}

// bytesOf writes a value's bytes by the library's numbers.
func bytesOf(v api.Value) []byte {
	b := []byte{byte(v.Kind)}
	put := func(s string) {
		b = append(binary.AppendUvarint(b, uint64(len(s))), s...)
	}
	switch v.Kind {
	case api.ValBool:
		if v.Bool {
			return append(b, 1)
		}
		return append(b, 0)
	case api.ValInt:
		return binary.AppendVarint(b, v.Int)
	case api.ValReal:
		k := math.Float32bits(v.Real)
		switch {
		case isNan(v):
			k = 0xffc00000
		case k>>31 == 0:
			k += 1 << 31
		default:
			k = 1<<32 - 1 - k
		}
		return binary.BigEndian.AppendUint32(b, k)
	case api.ValText:
		put(v.Text)
		return b
	}
	b = binary.AppendUvarint(b, uint64(len(v.Texts)))
	for _, s := range v.Texts {
		put(s)
	}
	return b
}

// P4.6: all kinds, and that no beginning of a value's bytes, and nothing with one byte more, is a value's.
func TestBytes(t *testing.T) {
	for _, v := range samples() {
		b := bytesOf(v)
		wantBytes(t, v, b)
		wantNoBytes(t, append(bytes.Clone(b), 0))
		wantNoBytes(t, append(bytes.Clone(b), b...))
		for n := range min(len(b), 40) {
			wantNoBytes(t, b[:n])
		}
		wantNoBytes(t, b[:len(b)-1])
	}
}

// P4.6: the limits of texts and of lists.
func TestBytesLimits(t *testing.T) {
	wantBytes(t, text(x(256)), append([]byte{4, 0x80, 2}, x(256)...))
	wantNoBytes(t, append([]byte{4, 0x81, 2}, x(257)...))
	wantBytes(t, list(x(256)), append([]byte{5, 1, 0x80, 2}, x(256)...))
	wantNoBytes(t, append([]byte{5, 1, 0x81, 2}, x(257)...))
	wantBytes(t, list(make([]string, 32)...), append([]byte{5, 32}, make([]byte, 32)...))
	wantNoBytes(t, append([]byte{5, 33}, make([]byte, 33)...))
	wantNoBytes(t, append([]byte{5, 33}, make([]byte, 32)...))
	wantNoBytes(t, append([]byte{5, 32}, make([]byte, 33)...))
	wantNoBytes(t, append([]byte{5, 0x80, 0x80, 4}, make([]byte, 1<<16)...))
	wantNoBytes(t, make([]byte, 1<<20))
}

// P4.6: what may not be has no bytes.
func TestEncodeWrong(t *testing.T) {
	for _, v := range wrongs() {
		if b, e := values.Encode(v); len(b) != 0 || e != api.ErrValue {
			t.Errorf("Encode(%s) = % x, %d", show(v), b, e)
		}
	}
}

// P4.6: of all bytes of some few Decode takes just those that are written of its answer.
func TestDecodeByBytes(t *testing.T) {
	pieces := []string{"\x00", "\x01", "\x02", "\x03", "\x04", "\x05", "\x06", "\x7f", "\x80", "\xff"}
	taken := 0
	eachText(pieces, 5, func(s string) {
		v, e := values.Decode([]byte(s))
		if e != api.OK {
			wantNoBytes(t, []byte(s))
			return
		}
		taken++
		if values.Check(v) != api.OK || string(bytesOf(v)) != s {
			t.Fatalf("Decode(% x) = %s", s, show(v))
		}
	})
	if want := countBytes(pieces, 5); taken != want {
		t.Errorf("%d are taken, want %d", taken, want)
	}
}

// countBytes counts the rows of up to most of the bytes that are a value's, by a grammar of its own.
func countBytes(pieces []string, most int) int {
	count := 0
	eachText(pieces, most, func(s string) {
		if s != "" && isBytes(s[0], s[1:]) {
			count++
		}
	})
	return count
}

// isBytes says whether rest, of at most four bytes, is what stands behind a kind.
func isBytes(kind byte, rest string) bool {
	switch kind {
	case api.ValBool:
		return rest == "\x00" || rest == "\x01"
	case api.ValInt:
		_, n := binary.Varint([]byte(rest))
		return n > 0 && n == len(rest) && (n == 1 || rest[n-1] != 0)
	case api.ValReal:
		if len(rest) != 4 {
			return false
		}
		k := binary.BigEndian.Uint32([]byte(rest))
		return k == 0xffc00000 || 0x007fffff <= k && k <= 0xff800000
	case api.ValText:
		return rest != "" && int(rest[0]) == len(rest)-1
	case api.ValTexts:
		if rest == "" || rest[0] > 32 {
			return false
		}
		n := int(rest[0])
		for rest = rest[1:]; rest != "" && len(rest) > int(rest[0]); n-- {
			rest = rest[1+int(rest[0]):]
		}
		return n == 0 && rest == ""
	}
	return false
}
