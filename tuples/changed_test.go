package tuples_test

import (
	"slices"
	"testing"

	"latchkey/api"
)

// written are tuples' texts of all kinds, short enough that each of their bytes can be changed to each other one.
func written() []string {
	return []string{
		`d:1#r@u:a`, `d:1#r@u:*`, `d:1#r@u:a#m`, `d:1#r@u:a with c`, `doc:x/y#rel_1@u_2:A~=.#m9 with cond_3`,
		`d:1#r@u:a#m with c{k: 1}`, `d:1#r@u:* with c{a: true, b: -12, c: nan, d: -0.0}`,
		`d:1#r@u:a with c{k: "a\"b\\\n\x00 with {}#@,:"}`, `d:1#r@u:a with c{k: ["a, \"", "]}", ""], l: []}`,
		`d:1#r@u:a with c{k: 9223372036854775807, l: -9223372036854775808, m: 3.4028235e38}`,
	}
}

// P10.4: texts that differ from a tuple's own by one byte: another one, one more, one less, two turned about; cut short, and going on.
func TestTextsByOneByte(t *testing.T) {
	for _, s := range written() {
		readAsTheWordsSay(t, s)
		for i := range len(s) {
			for c := range 256 {
				one := string([]byte{byte(c)})
				readAsTheWordsSay(t, s[:i]+one+s[i+1:])
				readAsTheWordsSay(t, s[:i]+one+s[i:])
				readAsTheWordsSay(t, s+one)
			}
			readAsTheWordsSay(t, s[:i])
			readAsTheWordsSay(t, s[i:])
			readAsTheWordsSay(t, s[:i]+s[i+1:])
			if i > 0 {
				readAsTheWordsSay(t, s[:i-1]+s[i:i+1]+s[i-1:i]+s[i+1:])
			}
		}
		for _, more := range written() {
			readAsTheWordsSay(t, s+more)
			readAsTheWordsSay(t, s+" with "+more)
			readAsTheWordsSay(t, s+", "+more)
		}
	}
}

// P10.5: bytes that differ from a tuple's own by one, are cut short or go on behind it.
func TestBytesByOneByte(t *testing.T) {
	for _, s := range written() {
		b := bytesOf(fact(s))
		wantBytes(t, fact(s), b)
		for i := range b {
			for c := range 256 {
				other := slices.Clone(b)
				other[i] = byte(c)
				decodedAsTheWordsSay(t, other)
				decodedAsTheWordsSay(t, slices.Insert(slices.Clone(b), i, byte(c)))
			}
			wantUndecoded(t, b[:i])
			wantUndecoded(t, slices.Concat(b, b[:i+1]))
			decodedAsTheWordsSay(t, slices.Delete(slices.Clone(b), i, i+1))
		}
		for c := range 256 {
			wantUndecoded(t, append(slices.Clone(b), byte(c)))
		}
	}
}

// P10.5: numbers that aren't in their shortest form, counts that are too great, values that have bytes behind them or aren't there.
func TestBytesOfNone(t *testing.T) {
	head := bytesOf(fact("d:1#r@u:a with c"))
	head = head[:len(head)-1]
	wantBytes(t, fact("d:1#r@u:a with c{k: 1}"), slices.Concat(head, []byte{1, 1, 'k', 2, 2, 2}))
	for _, tail := range [][]byte{
		{0x80, 0},
		{1},
		{1, 1, 'k'},
		{1, 1, 'k', 0},
		{1, 1, 'k', 1, 2},
		{1, 1, 'k', 2, 2, 2, 0},
		{1, 1, 'k', 3, 2, 2, 0},
		{1, 1, 'k', 3, 2, 0x82, 0},
		{1, 1, 'k', 2, 1, 2},
		{1, 1, 'k', 2, 6, 0},
		{1, 1, 'k', 0x82, 0, 2, 2},
		{0x81, 0, 1, 'k', 2, 2, 2},
		{1, 0x81, 0, 'k', 2, 2, 2},
		{1, 0, 2, 2, 2},
		{2, 1, 'k', 2, 2, 2},
		{2, 1, 'k', 2, 2, 2, 1, 'k', 2, 2, 2},
		{2, 1, 'l', 2, 2, 2, 1, 'k', 2, 2, 2},
		{17},
		{0xff, 0xff, 0xff, 0xff, 0xff, 0xff, 0xff, 0xff, 0xff, 1},
		{0xff, 0xff, 0xff, 0xff, 0xff, 0xff, 0xff, 0xff, 0xff, 2},
		{1, 1, 'k', 0xff, 0xff, 0xff, 0xff, 0xff, 0xff, 0xff, 0xff, 0xff, 1},
	} {
		wantUndecoded(t, slices.Concat(head, tail))
	}
	wantUndecoded(t, slices.Concat([]byte{0x81, 0}, bytesOf(fact("d:1#r@u:a"))[1:]))
	wantUndecoded(t, make([]byte, 8))
	wantUndecoded(t, make([]byte, 1<<20))
	wantUndecoded(t, slices.Repeat([]byte{0xff}, 1<<20))
	x := api.Tuple{Object: api.Object{Type: times("n", 33), Id: "1"}, Rel: "r", Subject: api.Subject{Type: "u", Id: "a"}}
	wantUndecoded(t, bytesOf(x))
}
