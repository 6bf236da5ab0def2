package conds

import (
	"math"

	"latchkey/api"
)

// reckonedWhole is what comes of two whole numbers; nil, if that is none of 64 bits, or divided by 0. Sums and products wrap round, and are told by that.
func reckonedWhole(kind int, a, b whole) worth {
	switch kind {
	case api.PartPlus:
		if sum := a + b; (sum > a) == (b > 0) {
			return sum
		}
	case api.PartLess:
		if rest := a - b; (rest < a) == (b > 0) {
			return rest
		}
	case api.PartTimes:
		return product(a, b)
	case api.PartOver:
		if b != 0 && !turned(a, b) {
			return a / b
		}
	}
	return nil
}

func product(a, b whole) worth {
	if b == 0 {
		return b
	}
	p := a * b
	if turned(a, b) || p/b != a {
		return nil
	}
	return p
}

// turned says whether the least int is to be turned about, which alone has no opposite; the wrap-round hides that from a division.
func turned(a, b whole) bool {
	return a == math.MinInt64 && b == -1
}
