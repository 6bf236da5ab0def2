package check_test

import (
	"math"
	"math/big"
	"testing"

	"latchkey/api"
	"latchkey/check"
)

// plainBound is what P17.1 says, in numbers of any size.
func plainBound(n, m, power int) int {
	if n < 0 || m < 0 {
		return 0
	}
	product := big.NewInt(16)
	for range 3 {
		product.Mul(product, new(big.Int).Add(big.NewInt(int64(n)), big.NewInt(2)))
	}
	for range power {
		product.Mul(product, new(big.Int).Add(big.NewInt(int64(m)), big.NewInt(2)))
	}
	if product.Cmp(big.NewInt(api.MaxBudget)) > 0 {
		return api.MaxBudget
	}
	return int(product.Int64())
}

func wantBounds(t *testing.T, n, m int) {
	t.Helper()
	if got, want := check.Bound(n, m), plainBound(n, m, 3); got != want {
		t.Errorf("Bound(%d, %d): %d, want %d", n, m, got, want)
	}
	if got, want := check.ListBound(n, m), plainBound(n, m, 4); got != want {
		t.Errorf("ListBound(%d, %d): %d, want %d", n, m, got, want)
	}
}

// P17.1: of numbers below 0, of 0 and of small ones, by hand.
func TestBoundsByHand(t *testing.T) {
	for _, x := range []struct{ n, m, want, list int }{
		{0, 0, 1024, 2048},
		{1, 0, 3456, 6912},
		{0, 1, 3456, 10368},
		{1, 1, 11664, 34992},
		{1, 2, 27648, 110592},
		{10, 9, 36799488, 404794368},
		{98, 998, 16e15, 1 << 62},
		{-1, 0, 0, 0}, {0, -1, 0, 0}, {-1, -1, 0, 0}, {-1, 5, 0, 0}, {5, -1, 0, 0}, {-2, 3, 0, 0}, {3, -2, 0, 0}, {-3, -3, 0, 0},
		{math.MinInt, 1, 0, 0}, {1, math.MinInt, 0, 0}, {math.MinInt, math.MinInt, 0, 0}, {math.MinInt, math.MaxInt, 0, 0}, {math.MaxInt, -1, 0, 0},
		{math.MaxInt, math.MaxInt, 1 << 62, 1 << 62}, {math.MaxInt, 0, 1 << 62, 1 << 62}, {0, math.MaxInt, 1 << 62, 1 << 62},
	} {
		if got := check.Bound(x.n, x.m); got != x.want {
			t.Errorf("Bound(%d, %d): %d, want %d", x.n, x.m, got, x.want)
		}
		if got := check.ListBound(x.n, x.m); got != x.list {
			t.Errorf("ListBound(%d, %d): %d, want %d", x.n, x.m, got, x.list)
		}
	}
}

// P17.1: all small numbers, and all near those where a product comes to MaxBudget and goes past it.
func TestBoundsByTheWords(t *testing.T) {
	near := []int{math.MinInt, math.MinInt + 1, -3, -2, -1}
	for n := range 40 {
		near = append(near, n)
	}
	for bit := 6; bit < 63; bit++ {
		for d := -4; d <= 4; d++ {
			near = append(near, 1<<bit+d)
		}
	}
	near = append(near, math.MaxInt-2, math.MaxInt-1, math.MaxInt, api.MaxTuples, api.MaxTuples+1)
	for _, n := range near {
		for _, m := range near {
			wantBounds(t, n, m)
		}
	}
}

// P17.1: of each first number, the greatest second one with which the product isn't past MaxBudget, and the next one.
func TestBoundsAtTheLimit(t *testing.T) {
	for n := range 3000 {
		for _, power := range []int{3, 4} {
			low, high := 0, 1<<21
			for low < high {
				mid := (low + high + 1) / 2
				if plainBound(n, mid, power) < api.MaxBudget {
					low = mid
				} else {
					high = mid - 1
				}
			}
			wantBounds(t, n, low)
			wantBounds(t, n, low+1)
			wantBounds(t, n, low+2)
		}
	}
	// Where it is just MaxBudget: 16 times 2^a to the third times 2^b to the third or fourth.
	if check.ListBound(4-2, 1<<13-2) != 1<<62 || check.ListBound(4-2, 1<<13-3) == 1<<62 || check.ListBound(4-3, 1<<13-2) == 1<<62 {
		t.Error("16 * 2^6 * 2^52")
	}
}
