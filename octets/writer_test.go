package octets_test

import (
	"encoding/binary"
	"encoding/hex"
	"math"
	"strings"
	"testing"

	"latchkey/api"
	"latchkey/octets"
)

// plain turns "07 ac 02" into its bytes.
func plain(t *testing.T, text string) []byte {
	t.Helper()
	b, err := hex.DecodeString(strings.ReplaceAll(text, " ", ""))
	if err != nil {
		t.Fatal(err)
	}
	return b
}

// written is what a fresh Writer has behind the calls of write.
func written(write func(w *octets.Writer)) []byte {
	var w octets.Writer
	write(&w)
	return w.Bytes()
}

func uintBytes(x uint64) []byte {
	return written(func(w *octets.Writer) { w.Uint(x) })
}

func intBytes(x int64) []byte {
	return written(func(w *octets.Writer) { w.Int(x) })
}

func realBytes(x float32) []byte {
	return written(func(w *octets.Writer) { w.Real(x) })
}

func textBytes(s string) []byte {
	return written(func(w *octets.Writer) { w.Text(s) })
}

func checkBytes(t *testing.T, what string, got []byte, want string) {
	t.Helper()
	if string(got) != string(plain(t, want)) {
		t.Errorf("%s = % x, want %s", what, got, want)
	}
}

// edgeUints are both sides of each place where a short form grows, and the ends.
func edgeUints() []uint64 {
	list := []uint64{0, 1, 2, 300, math.MaxUint64 - 1, math.MaxUint64}
	for bit := range 64 {
		p := uint64(1) << bit
		list = append(list, p-1, p, p+1)
	}
	return list
}

func edgeInts() []int64 {
	list := []int64{math.MinInt64, math.MinInt64 + 1, math.MaxInt64 - 1, math.MaxInt64}
	for _, u := range edgeUints() {
		list = append(list, int64(u), -int64(u))
	}
	return list
}

func edgeReals() []float32 {
	nought := float32(math.Copysign(0, -1))
	list := []float32{0, nought, 1, -1, 0.1, -0.1, 16777216, 3.25e-41, -3.25e-41,
		math.SmallestNonzeroFloat32, -math.SmallestNonzeroFloat32, math.MaxFloat32, -math.MaxFloat32,
		float32(math.Inf(1)), float32(math.Inf(-1)), float32(math.NaN())}
	for x := uint32(0); x < 1<<23; x += 1<<18 + 12345 {
		list = append(list, math.Float32frombits(x), math.Float32frombits(x|1<<31), math.Float32frombits(1<<30|x))
	}
	return list
}

// edgeTexts are of the lengths at which the number ahead of them grows, and of bytes of all kinds.
func edgeTexts() []string {
	return []string{"", "a", "ab", "\x00", "\xff\xfe", "\u00e4\u20ac", strings.Repeat("x", 127), strings.Repeat("y", 128),
		strings.Repeat("\x80", 16383), strings.Repeat("z", 16384)}
}

// Example 1.
func TestExampleWriter(t *testing.T) {
	checkBytes(t, "all", written(func(w *octets.Writer) {
		w.Byte(7)
		w.Uint(300)
		w.Int(-1)
		w.Int(64)
		w.Text("ab")
		w.Raw([]byte{0, 255})
	}), "07 ac 02 01 80 01 02 61 62 00 ff")
	checkBytes(t, "Real 1", realBytes(1), "bf 80 00 00")
	checkBytes(t, "Real -1", realBytes(-1), "40 7f ff ff")
	checkBytes(t, "Real 0", realBytes(0), "80 00 00 00")
	checkBytes(t, "Real -0", realBytes(float32(math.Copysign(0, -1))), "7f ff ff ff")
}

// P2.1: Byte.
func TestWriteByte(t *testing.T) {
	for x := range 256 {
		got := written(func(w *octets.Writer) { w.Byte(byte(x)) })
		if len(got) != 1 || got[0] != byte(x) {
			t.Errorf("Byte(%d) = % x", x, got)
		}
	}
}

// P2.1: Uint and Int, held against the library's numbers of the same form.
func TestWriteNumbers(t *testing.T) {
	for _, x := range edgeUints() {
		if got, want := uintBytes(x), binary.AppendUvarint(nil, x); string(got) != string(want) {
			t.Errorf("Uint(%d) = % x, want % x", x, got, want)
		}
	}
	for _, x := range edgeInts() {
		if got, want := intBytes(x), binary.AppendVarint(nil, x); string(got) != string(want) {
			t.Errorf("Int(%d) = % x, want % x", x, got, want)
		}
	}
}

// P2.1: the ends, byte by byte.
func TestWriteNumbersAtTheEnds(t *testing.T) {
	checkBytes(t, "Uint 0", uintBytes(0), "00")
	checkBytes(t, "Uint 127", uintBytes(127), "7f")
	checkBytes(t, "Uint 128", uintBytes(128), "80 01")
	checkBytes(t, "Uint 2^63 - 1", uintBytes(math.MaxInt64), "ff ff ff ff ff ff ff ff 7f")
	checkBytes(t, "Uint 2^63", uintBytes(1<<63), "80 80 80 80 80 80 80 80 80 01")
	checkBytes(t, "Uint 2^64 - 1", uintBytes(math.MaxUint64), "ff ff ff ff ff ff ff ff ff 01")
	checkBytes(t, "Int 0", intBytes(0), "00")
	checkBytes(t, "Int -1", intBytes(-1), "01")
	checkBytes(t, "Int 1", intBytes(1), "02")
	checkBytes(t, "Int -64", intBytes(-64), "7f")
	checkBytes(t, "Int 2^63 - 1", intBytes(math.MaxInt64), "fe ff ff ff ff ff ff ff ff 01")
	checkBytes(t, "Int -2^63", intBytes(math.MinInt64), "ff ff ff ff ff ff ff ff ff 01")
}

// P2.1: Real; all that are no numbers have one key, whatever their bits and their sign.
func TestWriteReal(t *testing.T) {
	checkBytes(t, "inf", realBytes(float32(math.Inf(1))), "ff 80 00 00")
	checkBytes(t, "-inf", realBytes(float32(math.Inf(-1))), "00 7f ff ff")
	checkBytes(t, "the greatest", realBytes(math.MaxFloat32), "ff 7f ff ff")
	checkBytes(t, "the least", realBytes(-math.MaxFloat32), "00 80 00 00")
	checkBytes(t, "the least above 0", realBytes(math.SmallestNonzeroFloat32), "80 00 00 01")
	checkBytes(t, "the greatest below 0", realBytes(-math.SmallestNonzeroFloat32), "7f ff ff fe")
	for _, bits := range []uint32{0x7f800001, 0x7fbfffff, 0x7fc00000, 0x7fc00001, 0x7fffffff, 0xff800001, 0xffc00000, 0xffffffff} {
		checkBytes(t, "no number", realBytes(math.Float32frombits(bits)), "ff c0 00 00")
	}
	for _, x := range edgeReals() {
		if x != x {
			continue
		}
		bits := math.Float32bits(x)
		if bits>>31 == 0 {
			bits += 1 << 31
		} else {
			bits = math.MaxUint32 - bits
		}
		if got, want := realBytes(x), binary.BigEndian.AppendUint32(nil, bits); string(got) != string(want) {
			t.Errorf("Real(%v) = % x, want % x", x, got, want)
		}
	}
}

// P2.1: Text and Raw.
func TestWriteTextAndRaw(t *testing.T) {
	for _, s := range edgeTexts() {
		want := string(binary.AppendUvarint(nil, uint64(len(s)))) + s
		if got := textBytes(s); string(got) != want {
			t.Errorf("Text of %d bytes = % x", len(s), got)
		}
		if got := written(func(w *octets.Writer) { w.Raw([]byte(s)) }); string(got) != s {
			t.Errorf("Raw of %d bytes = % x", len(s), got)
		}
	}
	if got := written(func(w *octets.Writer) { w.Raw(nil) }); len(got) != 0 {
		t.Errorf("Raw(nil) = % x", got)
	}
}

// P2.1: Bytes changes nothing, one may go on, and another Writer knows nothing of it.
func TestBytesAndGoOn(t *testing.T) {
	var w, other octets.Writer
	if got := w.Bytes(); len(got) != 0 {
		t.Errorf("nothing was written: % x", got)
	}
	want := ""
	for x := range 300 {
		w.Byte(byte(x))
		want += string([]byte{byte(x)})
		if first, again := w.Bytes(), w.Bytes(); string(first) != want || string(again) != want {
			t.Fatalf("behind %d bytes: % x, then % x", x+1, first, again)
		}
	}
	if got := other.Bytes(); len(got) != 0 {
		t.Errorf("another Writer has % x", got)
	}
}

// P2.1, Memory: what came in may be changed behind the call; what went out too, and the room behind it.
func TestWriterSharesNothing(t *testing.T) {
	var w octets.Writer
	in := []byte{1, 2, 3, 4}[:3]
	w.Raw(in)
	in[0] = 9
	if in = in[:4]; in[3] != 4 {
		t.Error("the room behind what came in was written", in)
	}
	out := w.Bytes()
	again := w.Bytes()
	out[1] = 9
	for range 100 {
		out = append(out, 9)
	}
	w.Byte(4)
	if string(again) != "\x01\x02\x03" || string(w.Bytes()) != "\x01\x02\x03\x04" {
		t.Errorf("% x, % x", again, w.Bytes())
	}
	room := w.Bytes()
	room = room[:cap(room)]
	w.Byte(5)
	for i := range room {
		room[i] = 9
	}
	if string(w.Bytes()) != "\x01\x02\x03\x04\x05" {
		t.Errorf("% x", w.Bytes())
	}
}

// P2.1: a Writer that isn't there.
func TestNoWriter(t *testing.T) {
	var w *octets.Writer
	w.Byte(1)
	w.Uint(1)
	w.Int(1)
	w.Real(1)
	w.Text("a")
	w.Raw([]byte{1})
	if got := w.Bytes(); len(got) != 0 {
		t.Errorf("% x", got)
	}
}

// A Writer is used as part of others, as image does.
func TestWriterEmbedded(t *testing.T) {
	var part struct{ octets.Writer }
	part.Uint(5)
	part.Text("a")
	checkBytes(t, "embedded", part.Bytes(), "05 01 61")
}

func TestNumbersOfErrors(t *testing.T) {
	got := []api.Errno{api.OK, api.ErrNil, api.ErrArg, api.ErrLong, api.ErrShort, api.ErrNumber, api.ErrArmor, api.ErrMore}
	for i, want := range []api.Errno{0, 1, 2, 3, 20, 21, 22, 23} {
		if got[i] != want {
			t.Error(i, got[i], want)
		}
	}
}
