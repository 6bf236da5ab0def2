package shelf

import (
	"slices"
	"testing"
)

// isBalanced says whether each branch has the right size, and no side that is heavier than it may be.
func isBalanced(x *tree[int]) bool {
	if x == nil {
		return true
	}
	a, b := x.left.weight(), x.right.weight()
	return x.size == a+b-1 && a <= mostSide*b && b <= mostSide*a && isBalanced(x.left) && isBalanced(x.right)
}

// everyShape shows all trees of n numbers that are balanced.
func everyShape(n int) []*tree[int] {
	shapes := make([][]*tree[int], n+1)
	shapes[0] = []*tree[int]{nil}
	for size := 1; size <= n; size++ {
		for left := range size {
			right := size - 1 - left
			if left+1 > mostSide*(right+1) || right+1 > mostSide*(left+1) {
				continue
			}
			for _, a := range shapes[left] {
				for _, b := range shapes[right] {
					shapes[size] = append(shapes[size], branch(a, 0, b))
				}
			}
		}
	}
	return shapes[n]
}

func listOf(x *tree[int]) []int {
	return slices.Collect(x.from(0))
}

// Behind each change of each tree that is balanced: it is balanced again, and the row is what it should be, the old one as it was.
func TestEachChangeOfEachShape(t *testing.T) {
	for n := range 13 {
		for _, x := range everyShape(n) {
			row := listOf(x)
			for i := range n + 1 {
				y := x.insert(i, 1)
				if !isBalanced(y) || !slices.Equal(listOf(y), slices.Insert(slices.Clone(row), i, 1)) {
					t.Fatal("insert", n, i, listOf(y))
				}
			}
			for i := range n {
				y, z := x.remove(i), x.replace(i, 1)
				want := slices.Clone(row)
				want[i] = 1
				if !isBalanced(y) || !isBalanced(z) || len(listOf(y)) != n-1 || !slices.Equal(listOf(z), want) {
					t.Fatal("remove, replace", n, i, listOf(y), listOf(z))
				}
			}
			if !slices.Equal(listOf(x), row) {
				t.Fatal("the old one has changed", listOf(x))
			}
		}
	}
}

// Of trees with many elements: all balanced, in whatever order they came and went.
func TestBalanceOfGreatTrees(t *testing.T) {
	places := map[string]func(size, turn int) int{
		"ahead":   func(size, turn int) int { return 0 },
		"behind":  func(size, turn int) int { return size },
		"between": func(size, turn int) int { return size / 2 },
		"by turn": func(size, turn int) int { return size * (turn % 2) },
		"mixed":   func(size, turn int) int { return turn * 7919 % (size + 1) },
		"third":   func(size, turn int) int { return size / 3 },
	}
	for in, place := range places {
		for out, other := range places {
			var x *tree[int]
			turn := 0
			for x.count() < 600 {
				x = x.insert(place(x.count(), turn), turn)
				turn++
				if !isBalanced(x) {
					t.Fatal("in", in, x.count())
				}
			}
			for x.count() > 0 {
				x = x.remove(other(x.count()-1, turn))
				turn++
				if !isBalanced(x) {
					t.Fatal("in", in, "out", out, x.count())
				}
			}
		}
	}
}
