package octets_test

import (
	"math"
	"testing"

	"latchkey/api"
	"latchkey/octets"
)

// item is one thing that is written, and whether a read of its kind answers the same.
type item struct {
	write func(w *octets.Writer)
	same  func(r *octets.Reader) bool
}

func items() []item {
	var list []item
	for _, x := range edgeUints() {
		list = append(list,
			item{func(w *octets.Writer) { w.Uint(x) }, func(r *octets.Reader) bool { return r.Uint() == x }},
			item{func(w *octets.Writer) { w.Byte(byte(x)) }, func(r *octets.Reader) bool { return r.Byte() == byte(x) }})
	}
	for _, x := range edgeInts() {
		list = append(list, item{func(w *octets.Writer) { w.Int(x) }, func(r *octets.Reader) bool { return r.Int() == x }})
	}
	for _, x := range edgeReals() {
		list = append(list, item{func(w *octets.Writer) { w.Real(x) }, func(r *octets.Reader) bool {
			y := r.Real()
			return bits(y) == bits(x) || x != x && bits(y) == 0x7fc00000
		}})
	}
	for _, s := range edgeTexts() {
		list = append(list,
			item{func(w *octets.Writer) { w.Text(s) }, func(r *octets.Reader) bool { return r.Text(math.MaxInt) == s }},
			item{func(w *octets.Writer) { w.Raw([]byte(s)) }, func(r *octets.Reader) bool { return string(r.Raw(len(s))) == s }})
	}
	return list
}

// P2.6: what is written is read as the same, and nothing is left.
func TestThereAndBack(t *testing.T) {
	list := items()
	all := written(func(w *octets.Writer) {
		for _, x := range list {
			x.write(w)
		}
	})
	r := octets.Read(all)
	for i, x := range list {
		if !x.same(r) || r.Err() != api.OK {
			t.Fatalf("item %d: error %d", i, r.Err())
		}
	}
	if r.Left() != 0 || r.End() != api.OK {
		t.Error(r.Left(), r.End())
	}
}

// P2.6: of a shorter beginning some read is refused with ErrShort.
func TestShorterBeginning(t *testing.T) {
	list := []item{items()[0]}
	for i, x := range items() {
		if i%7 == 0 && len(written(x.write)) < 200 {
			list = append(list, x)
		}
	}
	all := written(func(w *octets.Writer) {
		for _, x := range list {
			x.write(w)
		}
	})
	for n := range len(all) {
		r := octets.Read(all[:n])
		for _, x := range list {
			x.same(r)
		}
		if r.Err() != api.ErrShort || r.End() != api.ErrShort {
			t.Fatalf("%d of %d bytes: error %d", n, len(all), r.Err())
		}
	}
}

// P2.6: a number has one form: what is read is just what is written of the answer.
func checkOneForm(t *testing.T, b []byte) {
	t.Helper()
	r := octets.Read(b)
	if x := r.Uint(); r.Err() == api.OK {
		if again := uintBytes(x); string(again) != string(b[:len(b)-r.Left()]) {
			t.Errorf("Uint of % x is %d, which is written % x", b, x, again)
		}
	}
	r = octets.Read(b)
	if x := r.Int(); r.Err() == api.OK {
		if again := intBytes(x); string(again) != string(b[:len(b)-r.Left()]) {
			t.Errorf("Int of % x is %d, which is written % x", b, x, again)
		}
	}
	r = octets.Read(b)
	if x := r.Real(); r.Err() == api.OK {
		if again := realBytes(x); string(again) != string(b[:4]) {
			t.Errorf("Real of % x is %v, which is written % x", b, x, again)
		}
	}
}

func TestOneForm(t *testing.T) {
	edges := []byte{0x00, 0x01, 0x02, 0x7f, 0x80, 0x81, 0xbf, 0xc0, 0xff}
	rows := [][]byte{{}}
	for from := 0; from < len(rows) && len(rows[from]) < 4; from++ {
		for _, x := range edges {
			rows = append(rows, append(append([]byte(nil), rows[from]...), x))
		}
	}
	long := make([]byte, 0, 13)
	for _, row := range rows {
		checkOneForm(t, row)
		long = append(long[:0], 0x80, 0xff, 0x80, 0xff, 0x80, 0xff, 0x80, 0xff)
		checkOneForm(t, append(long, row...))
	}
}

// P2.2, P2.6: which keys there are, by all of their first bytes.
func TestKeysThatAreNone(t *testing.T) {
	for high := range uint32(1 << 16) {
		for _, low := range []uint32{0, 1, 0x7fff, 0x8000, 0xfffe, 0xffff} {
			k := high<<16 | low
			b := []byte{byte(k >> 24), byte(k >> 16), byte(k >> 8), byte(k)}
			none := k <= 0x007ffffe || 0xff800001 <= k && k <= 0xffbfffff || 0xffc00001 <= k
			r := octets.Read(b)
			x := r.Real()
			if none != (r.Err() == api.ErrNumber) || none && bits(x) != 0 || !none && string(realBytes(x)) != string(b) {
				t.Fatalf("key %08x: %v, error %d", k, x, r.Err())
			}
		}
	}
}
