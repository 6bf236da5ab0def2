package octets_test

import (
	"math"
	"strings"
	"testing"

	"latchkey/api"
	"latchkey/octets"
)

// reading is one kind of read: zero says whether it answered zero.
type reading struct {
	name string
	zero func(r *octets.Reader) bool
}

func readings() []reading {
	return []reading{
		{"Byte", func(r *octets.Reader) bool { return r.Byte() == 0 }},
		{"Uint", func(r *octets.Reader) bool { return r.Uint() == 0 }},
		{"Int", func(r *octets.Reader) bool { return r.Int() == 0 }},
		{"Real", func(r *octets.Reader) bool { return math.Float32bits(r.Real()) == 0 }},
		{"Text", func(r *octets.Reader) bool { return r.Text(9) == "" }},
		{"Text(-1)", func(r *octets.Reader) bool { return r.Text(-1) == "" }},
		{"Raw", func(r *octets.Reader) bool { return len(r.Raw(1)) == 0 }},
		{"Raw(-1)", func(r *octets.Reader) bool { return len(r.Raw(-1)) == 0 }},
	}
}

// checkRefused: the read answered zero, nothing was read, the error is e, and so it is behind every other read.
func checkRefused(t *testing.T, what string, r *octets.Reader, zero bool, left int, e api.Errno) {
	t.Helper()
	if !zero || r.Left() != left || r.Err() != e || r.End() != e {
		t.Errorf("%s: zero %v, Left %d, Err %d, End %d; want %d left, error %d", what, zero, r.Left(), r.Err(), r.End(), left, e)
	}
	for _, next := range readings() {
		if !next.zero(r) || r.Left() != left || r.Err() != e || r.End() != e {
			t.Errorf("%s, then %s: Left %d, Err %d, End %d; want %d left, error %d", what, next.name, r.Left(), r.Err(), r.End(), left, e)
		}
	}
}

func checkRead(t *testing.T, what string, r *octets.Reader, ok bool, left int) {
	t.Helper()
	end := api.OK
	if left > 0 {
		end = api.ErrMore
	}
	if !ok || r.Left() != left || r.Err() != api.OK || r.End() != end {
		t.Errorf("%s: right %v, Left %d, Err %d, End %d; want %d left", what, ok, r.Left(), r.Err(), r.End(), left)
	}
}

// bits of a Real's answer, so that both noughts and what is no number can be told.
func bits(x float32) uint32 {
	return math.Float32bits(x)
}

// Example 2.
func TestExampleReader(t *testing.T) {
	r := octets.Read(plain(t, "07 ac 02 01"))
	checkRead(t, "Byte", r, r.Byte() == 7, 3)
	checkRead(t, "Uint", r, r.Uint() == 300, 1)
	checkRead(t, "Int", r, r.Int() == -1, 0)
	checkRefused(t, "Byte", r, r.Byte() == 0, 0, api.ErrShort)
}

// P2.2: a Reader has no error at first, and none of its bytes is read.
func TestRead(t *testing.T) {
	for _, b := range [][]byte{nil, {}, {0}, {1, 2, 3}} {
		checkRead(t, "Read", octets.Read(b), true, len(b))
	}
}

// P2.2: Byte.
func TestReadByte(t *testing.T) {
	for x := range 256 {
		r := octets.Read([]byte{byte(x), 1})
		checkRead(t, "Byte", r, r.Byte() == byte(x), 1)
	}
	r := octets.Read(nil)
	checkRefused(t, "Byte", r, r.Byte() == 0, 0, api.ErrShort)
}

// P2.2: Uint, of what is a short form (example 3 and the edges); a byte behind it stays.
func TestReadUint(t *testing.T) {
	for _, c := range []struct {
		text string
		want uint64
	}{
		{"00", 0}, {"01", 1}, {"7f", 127}, {"80 01", 128}, {"ff 7f", 16383}, {"80 80 01", 16384}, {"ac 02", 300},
		{"ff ff ff ff ff ff ff ff 7f", math.MaxInt64}, {"80 80 80 80 80 80 80 80 80 01", 1 << 63},
		{"ff ff ff ff ff ff ff ff ff 01", math.MaxUint64},
	} {
		for _, behind := range []string{"", "00", "80", "ff ff"} {
			r := octets.Read(plain(t, c.text+behind))
			checkRead(t, c.text+" | "+behind, r, r.Uint() == c.want, len(plain(t, behind)))
		}
		r := octets.Read(plain(t, c.text))
		want := int64(c.want / 2)
		if c.want%2 == 1 {
			want = -want - 1
		}
		checkRead(t, "Int of "+c.text, r, r.Int() == want, 0)
	}
}

// P2.2: Uint and Int, of what is no short form (example 3 and the edges).
func TestReadNumberRefused(t *testing.T) {
	nine := strings.Repeat("80", 9)
	for _, c := range []struct {
		text string
		e    api.Errno
	}{
		{"", api.ErrShort}, {"80", api.ErrShort}, {"ff", api.ErrShort}, {"81 80", api.ErrShort}, {nine, api.ErrShort},
		{strings.Repeat("ff", 9), api.ErrShort},
		{"80 00", api.ErrNumber}, {"ff 00", api.ErrNumber}, {"80 80 00", api.ErrNumber}, {"80 00 01", api.ErrNumber},
		{strings.Repeat("80", 8) + "00", api.ErrNumber}, {nine + "00", api.ErrNumber},
		{nine + "02", api.ErrNumber}, {nine + "7f", api.ErrNumber}, {nine + "80", api.ErrNumber}, {nine + "81", api.ErrNumber},
		{nine + "81 01", api.ErrNumber}, {nine + "ff", api.ErrNumber}, {nine + "80 80", api.ErrNumber}, {nine + "80 01", api.ErrNumber},
		{strings.Repeat("ff", 9) + "02", api.ErrNumber}, {strings.Repeat("ff", 10), api.ErrNumber},
	} {
		left := len(plain(t, c.text))
		r := octets.Read(plain(t, c.text))
		checkRefused(t, "Uint of "+c.text, r, r.Uint() == 0, left, c.e)
		r = octets.Read(plain(t, c.text))
		checkRefused(t, "Int of "+c.text, r, r.Int() == 0, left, c.e)
		r = octets.Read(plain(t, c.text))
		checkRefused(t, "Text of "+c.text, r, r.Text(math.MaxInt) == "", left, c.e)
	}
}

// P2.2: Real, of what is a key.
func TestReadReal(t *testing.T) {
	for _, c := range []struct {
		text string
		want uint32
	}{
		{"bf 80 00 00", bits(1)}, {"40 7f ff ff", bits(-1)}, {"80 00 00 00", 0}, {"7f ff ff ff", 1 << 31},
		{"00 7f ff ff", 0xff800000}, {"00 80 00 00", 0xff7fffff}, {"7f ff ff fe", 0x80000001}, {"80 00 00 01", 1},
		{"ff 7f ff ff", 0x7f7fffff}, {"ff 80 00 00", 0x7f800000}, {"ff c0 00 00", 0x7fc00000},
	} {
		r := octets.Read(plain(t, c.text+"07"))
		checkRead(t, c.text, r, bits(r.Real()) == c.want, 1)
	}
}

// P2.2: Real, of what is no key, or fewer bytes (example 3 and the edges).
func TestReadRealRefused(t *testing.T) {
	for _, text := range []string{"00 00 00 00", "00 00 00 01", "00 40 00 00", "00 7f ff fe", "00 3f ff ff",
		"ff 80 00 01", "ff a0 00 00", "ff bf ff ff", "ff c0 00 01", "ff e0 00 00", "ff ff ff ff"} {
		r := octets.Read(plain(t, text+"07"))
		checkRefused(t, text, r, bits(r.Real()) == 0, 5, api.ErrNumber)
	}
	for _, text := range []string{"", "ff", "ff c0", "ff c0 00", "00 00 00"} {
		r := octets.Read(plain(t, text))
		checkRefused(t, text, r, bits(r.Real()) == 0, len(plain(t, text)), api.ErrShort)
	}
}

// P2.2: Text (example 4 and the edges).
func TestReadText(t *testing.T) {
	for _, c := range []struct {
		text string
		most int
		want string
		left int
	}{
		{"02 61 62", 2, "ab", 0}, {"02 61 62", 3, "ab", 0}, {"02 61 62", math.MaxInt, "ab", 0}, {"02 61 62 63", 2, "ab", 1},
		{"00", 0, "", 0}, {"00", 9, "", 0}, {"00 61", 0, "", 1}, {"01 00", 1, "\x00", 0}, {"02 ff fe 07", 5, "\xff\xfe", 1},
	} {
		r := octets.Read(plain(t, c.text))
		checkRead(t, c.text, r, r.Text(c.most) == c.want, c.left)
	}
	for _, s := range edgeTexts() {
		r := octets.Read(append(textBytes(s), 1))
		checkRead(t, "at most", r, r.Text(len(s)) == s, 1)
		if len(s) > 0 {
			r = octets.Read(textBytes(s))
			checkRefused(t, "one past it", r, r.Text(len(s)-1) == "", len(textBytes(s)), api.ErrLong)
		}
	}
}

// P2.2: Text refused; of several reasons the first.
func TestReadTextRefused(t *testing.T) {
	for _, c := range []struct {
		text string
		most int
		e    api.Errno
	}{
		{"02 61 62", 1, api.ErrLong}, {"02 61 62", 0, api.ErrLong}, {"02 61 62", -1, api.ErrArg}, {"02 61 62", math.MinInt, api.ErrArg},
		{"03 61 62", 9, api.ErrShort}, {"03 61 62", 3, api.ErrShort}, {"01", 1, api.ErrShort}, {"", 9, api.ErrShort}, {"82", 9, api.ErrShort},
		{"03 61 62", 2, api.ErrLong}, {"03", 2, api.ErrLong}, // both too long and too short
		{"80 00", 0, api.ErrNumber}, {"82 00 61 62", 9, api.ErrNumber}, // no number at all
		{"", -1, api.ErrArg}, {"80 00", -1, api.ErrArg}, {"03 61", -1, api.ErrArg}, // most goes ahead
		{"ff ff ff ff ff ff ff ff ff 01", math.MaxInt, api.ErrLong}, {"80 80 80 80 80 80 80 80 80 01 61", math.MaxInt, api.ErrLong},
		{"ff ff ff ff ff ff ff ff 7f", math.MaxInt, api.ErrShort}, {"ff ff ff ff ff ff ff ff 7f", math.MaxInt - 1, api.ErrLong},
	} {
		b := plain(t, c.text)
		r := octets.Read(b)
		checkRefused(t, c.text, r, r.Text(c.most) == "", len(b), c.e)
	}
}

// P2.2: Raw (example 4 and the edges).
func TestReadRaw(t *testing.T) {
	r := octets.Read(nil)
	checkRead(t, "Raw(0) of no bytes", r, len(r.Raw(0)) == 0, 0)
	r = octets.Read([]byte{1, 2, 3})
	checkRead(t, "Raw(0)", r, len(r.Raw(0)) == 0, 3)
	checkRead(t, "Raw(2)", r, string(r.Raw(2)) == "\x01\x02", 1)
	checkRead(t, "Raw(1)", r, string(r.Raw(1)) == "\x03", 0)
	checkRead(t, "Raw(0) at the end", r, len(r.Raw(0)) == 0, 0)
	for _, c := range []struct {
		size, n int
		e       api.Errno
	}{{0, -1, api.ErrArg}, {3, -1, api.ErrArg}, {3, math.MinInt, api.ErrArg}, {0, 1, api.ErrShort}, {3, 4, api.ErrShort}, {3, math.MaxInt, api.ErrShort}} {
		r := octets.Read(make([]byte, c.size))
		checkRefused(t, "Raw", r, len(r.Raw(c.n)) == 0, c.size, c.e)
	}
}

// P2.2: what was read ahead of a refusal stays read; the first reason stays.
func TestReadBehindARefusal(t *testing.T) {
	r := octets.Read(plain(t, "07 80 00 02 61 62"))
	checkRead(t, "Byte", r, r.Byte() == 7, 5)
	checkRefused(t, "Uint", r, r.Uint() == 0, 5, api.ErrNumber)
	for range 3 {
		checkRefused(t, "Byte", r, r.Byte() == 0, 5, api.ErrNumber)
	}
}

// P2.3: none of Left, Err and End changes anything.
func TestAskingChangesNothing(t *testing.T) {
	r := octets.Read([]byte{5, 6})
	for range 3 {
		checkRead(t, "asked", r, true, 2)
	}
	checkRead(t, "Byte", r, r.Byte() == 5, 1)
	checkRead(t, "Byte", r, r.Byte() == 6, 0)
}

// P2.3: a Reader that isn't there.
func TestNoReader(t *testing.T) {
	var r *octets.Reader
	for _, read := range readings() {
		if !read.zero(r) || r.Left() != 0 || r.Err() != api.ErrNil || r.End() != api.ErrNil {
			t.Errorf("%s: Left %d, Err %d, End %d", read.name, r.Left(), r.Err(), r.End())
		}
	}
}

// P2.2, Memory: a Reader has the bytes that b had then, two Readers of the same bytes know nothing of one another, and what went out may be changed.
func TestReaderSharesNothing(t *testing.T) {
	b := []byte{1, 2, 3, 4}
	r, other := octets.Read(b[:3]), octets.Read(b[:3])
	b[0], b[1], b[2] = 9, 9, 9
	first := r.Raw(1)
	first[0] = 8
	room := first[:cap(first)]
	for i := range room {
		room[i] = 8
	}
	first = append(first, 8, 8)
	if got := r.Raw(2); string(got) != "\x02\x03" {
		t.Errorf("% x", got)
	}
	if got := other.Raw(3); string(got) != "\x01\x02\x03" {
		t.Errorf("another Reader: % x", got)
	}
	if b[3] != 4 {
		t.Error("the room behind what came in was written", b)
	}
}
