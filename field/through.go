package field

import "kinesphere/api"

// sum adds up numbers. Each one is reduced before it is added, so that no sum is too great for an int.
func sum(l ...int) (x int) {
	for _, n := range l {
		x = Mod(x + Mod(n))
	}
	return x
}

// minus returns a difference. The second number is reduced first: the least int has no negative.
func minus(a, b int) int { return sum(a, -Mod(b)) }

// power returns n to the power of an exponent that is not negative.
func power(n, exponent int) (x int) {
	x = 1
bits:
	for square := n; ; square = Mul(square, square) {
		switch {
		case exponent == 0:
			break bits
		case exponent&1 == 1:
			x = Mul(x, square)
		}
		exponent >>= 1
	}
	return x
}

// distinct reports whether the X of the points stand for pairwise different numbers.
func distinct(l []api.Point) bool {
	seen := map[int]bool{}
	for _, p := range l {
		x := Mod(p.X)
		if seen[x] {
			return false
		}
		seen[x] = true
	}
	return true
}

// weight returns the value at at of the polynomial that is 1 at the X of the point i of l and 0 at all others.
// The value of the polynomial through all points is the sum of their Y, each times its weight.
func weight(l []api.Point, i, at int) int {
	above, below := 1, 1
	for p := range others(l, i) {
		above = Mul(above, minus(at, p.X))
		below = Mul(below, minus(l[i].X, p.X))
	}
	// A product of differences of different numbers is not 0.
	x, _ := Inverse(below)
	return Mul(above, x)
}

// others yields the points of l but the point i.
func others(l []api.Point, i int) func(yield func(p api.Point) bool) {
	return func(yield func(p api.Point) bool) {
		for j, p := range l {
			if j != i && !yield(p) {
				return
			}
		}
	}
}
