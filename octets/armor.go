package octets

import "latchkey/api"

const (
	letters   = "abcdefghijklmnopqrstuvwxyz234567"
	byteBits  = 8
	groupBits = 5 // of each letter
)

// Armor writes the bytes as letters.
func Armor(b []byte) string {
	var out []byte
	var held uint32 // its lowest bits are those that no letter has yet
	bits := 0
	for _, x := range b {
		held = held<<byteBits | uint32(x)
		bits += byteBits
		for bits >= groupBits {
			bits -= groupBits
			out = append(out, letter(held>>bits))
		}
	}
	if bits > 0 {
		out = append(out, letter(held<<(groupBits-bits)))
	}
	return string(out)
}

// Unarmor reads the bytes of which s is the Armor.
func Unarmor(s string) ([]byte, api.Errno) {
	var out []byte
	var held uint32 // its lowest bits are those that no byte has yet
	bits := 0
	for i := range len(s) {
		x, ok := number(s[i])
		if !ok {
			return nil, api.ErrArmor
		}
		held = held<<groupBits | x
		bits += groupBits
		if bits >= byteBits {
			bits -= byteBits
			out = append(out, byte(held>>bits))
		}
	}
	// What fills the last letter is fewer than a letter's bits, and noughts: else other letters would say the same.
	if bits >= groupBits || held&(1<<bits-1) != 0 {
		return nil, api.ErrArmor
	}
	return out, api.OK
}

// letter stands for the lowest five bits of x.
func letter(x uint32) byte {
	return letters[x&(1<<groupBits-1)]
}

func number(c byte) (uint32, bool) {
	switch {
	case 'a' <= c && c <= 'z':
		return uint32(c - 'a'), true
	case '2' <= c && c <= '7':
		return uint32(c-'2') + 26, true
	}
	return 0, false
}
