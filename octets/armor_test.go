package octets_test

import (
	"encoding/base32"
	"hash/fnv"
	"testing"

	"latchkey/api"
	"latchkey/octets"
)

// someBytes are n bytes that look like any.
func someBytes(n, seed int) []byte {
	b := make([]byte, n)
	x := uint32(seed)*2654435761 + 1
	for i := range b {
		x = x*1664525 + 1013904223
		b[i] = byte(x >> 24)
	}
	return b
}

// Example 5 and P2.4.
func TestSum(t *testing.T) {
	if got := octets.Sum(nil); got != 0xcbf29ce484222325 {
		t.Errorf("of no bytes: %x", got)
	}
	if got := octets.Sum([]byte("a")); got != 0xaf63dc4c8601ec8c {
		t.Errorf("of a: %x", got)
	}
	for n := range 100 {
		b := someBytes(n, n)
		h := fnv.New64a()
		h.Write(b)
		if got := octets.Sum(b); got != h.Sum64() {
			t.Errorf("Sum(% x) = %x, want %x", b, got, h.Sum64())
		}
	}
}

// P2.6: one more byte is one step more.
func TestSumStep(t *testing.T) {
	b := someBytes(40, 7)
	for n := range len(b) {
		want := (octets.Sum(b[:n]) ^ uint64(b[n])) * 1099511628211
		if got := octets.Sum(b[:n+1]); got != want {
			t.Errorf("%d bytes: %x, want %x", n+1, got, want)
		}
	}
}

// P2.6: where just one byte is another one, the sum is another one.
func TestSumOfOneOtherByte(t *testing.T) {
	b := someBytes(20, 3)
	for i := range b {
		seen := map[uint64]int{}
		for x := range 256 {
			other := append([]byte(nil), b...)
			other[i] = byte(x)
			if y, there := seen[octets.Sum(other)]; there {
				t.Errorf("bytes %d and %d at %d have one sum", y, x, i)
			}
			seen[octets.Sum(other)] = x
		}
	}
}

// Example 6.
func TestExampleArmor(t *testing.T) {
	for _, c := range []struct{ b, s string }{{"", ""}, {"\x00", "aa"}, {"\xff", "74"}, {"foo", "mzxw6"}, {"foobar", "mzxw6ytboi"}} {
		if got := octets.Armor([]byte(c.b)); got != c.s {
			t.Errorf("Armor(%q) = %q, want %q", c.b, got, c.s)
		}
		if got, e := octets.Unarmor(c.s); string(got) != c.b || e != api.OK {
			t.Errorf("Unarmor(%q) = %q, %d", c.s, got, e)
		}
	}
	for _, s := range []string{"75", "7", "aaa", "aaaaaa", "7A", "a1"} {
		checkNoArmor(t, s)
	}
}

func checkNoArmor(t *testing.T, s string) {
	t.Helper()
	if got, e := octets.Unarmor(s); len(got) != 0 || e != api.ErrArmor {
		t.Errorf("Unarmor(%q) = % x, %d, want ErrArmor", s, got, e)
	}
}

// library is an Armor and Unarmor of other making.
func library() *base32.Encoding {
	return base32.NewEncoding("abcdefghijklmnopqrstuvwxyz234567").WithPadding(base32.NoPadding)
}

// P2.5, P2.6: Armor, and there and back.
func TestArmor(t *testing.T) {
	for n := range 60 {
		for seed := range 5 {
			b := someBytes(n, seed)
			s := octets.Armor(b)
			if want := library().EncodeToString(b); s != want {
				t.Errorf("Armor(% x) = %q, want %q", b, s, want)
			}
			if back, e := octets.Unarmor(s); string(back) != string(b) || e != api.OK {
				t.Errorf("Unarmor(%q) = % x, %d, want % x", s, back, e, b)
			}
		}
	}
	for x := range 256 {
		b := []byte{byte(x), byte(255 - x)}
		if back, e := octets.Unarmor(octets.Armor(b)); string(back) != string(b) || e != api.OK {
			t.Errorf("% x: % x, %d", b, back, e)
		}
	}
}

// P2.5: every byte that is no letter, at every place.
func TestUnarmorOtherBytes(t *testing.T) {
	const letters = "abcdefghijklmnopqrstuvwxyz234567"
	good := map[byte]bool{}
	for i := range len(letters) {
		good[letters[i]] = true
	}
	for i := range 8 {
		for x := range 256 {
			s := []byte("mzxw6ytb")
			s[i] = byte(x)
			if got, e := octets.Unarmor(string(s)); good[byte(x)] != (e == api.OK) || e != api.OK && (e != api.ErrArmor || len(got) != 0) {
				t.Errorf("Unarmor(%q) = % x, %d", s, got, e)
			}
		}
	}
	for _, s := range []string{"mzxw6===", "mzxw6 ", " mzxw6", "mzxw6\n", "mzx w6", "MZXW6", "a\x00", "\u00e4\u00e4"} {
		checkNoArmor(t, s)
	}
}

// P2.5, P2.6: of all texts of up to four letters out of some, what Unarmor takes is the Armor of its answer, and what it refuses is the Armor of no bytes.
func TestUnarmorTakesArmorAlone(t *testing.T) {
	armors := map[string]string{}
	for x := range 256 {
		armors[octets.Armor([]byte{byte(x)})] = string([]byte{byte(x)})
		for y := range 256 {
			armors[octets.Armor([]byte{byte(x), byte(y)})] = string([]byte{byte(x), byte(y)})
		}
	}
	armors[octets.Armor(nil)] = ""
	if len(armors) != 1+256+256*256 {
		t.Errorf("unlike bytes have the same letters: %d armors", len(armors))
	}
	texts := []string{""}
	for from := 0; from < len(texts) && len(texts[from]) < 4; from++ {
		for _, c := range []byte("abiqyz234567A1=") {
			texts = append(texts, texts[from]+string([]byte{c}))
		}
	}
	for _, s := range texts {
		want, taken := armors[s]
		if got, e := octets.Unarmor(s); string(got) != want || taken != (e == api.OK) || !taken && e != api.ErrArmor {
			t.Errorf("Unarmor(%q) = % x, %d, want % x", s, got, e, want)
		}
	}
}

// P2.5: how many letters there may be, and what may fill the last one.
func TestUnarmorLastLetter(t *testing.T) {
	const letters = "abcdefghijklmnopqrstuvwxyz234567"
	step := []int{1, 0, 4, 0, 16, 2, 0, 8} // by how many letters there are: which last ones end in noughts enough
	for n := 1; n < 25; n++ {
		for last := range len(letters) {
			s := octets.Armor(make([]byte, 20))[:n-1] + letters[last:last+1]
			taken := step[n%8] > 0 && last%step[n%8] == 0
			if got, e := octets.Unarmor(s); taken && (e != api.OK || len(got) != n*5/8) {
				t.Errorf("Unarmor(%q) = % x, %d", s, got, e)
			} else if !taken {
				checkNoArmor(t, s)
			}
		}
	}
}

// Memory: what came in isn't changed, what went out may be.
func TestSumAndArmorShareNothing(t *testing.T) {
	b := someBytes(9, 1)
	octets.Sum(b)
	s := octets.Armor(b[:8])
	first, _ := octets.Unarmor(s)
	for i := range first[:cap(first)] {
		first[:cap(first)][i] = 0
	}
	again, _ := octets.Unarmor(s)
	if string(b) != string(someBytes(9, 1)) || string(again) != string(b[:8]) {
		t.Errorf("% x, % x", b, again)
	}
}
